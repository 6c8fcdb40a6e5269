/- Contract of the reference: times. -/
import Derived.Test.YtcfohcpcepeolaaGreatDoorVG
set_option linter.unusedSimpArgs false
set_option linter.unusedVariables false
/- Contracts of the reference: Check, checks, trim. -/
namespace Go.Proofs.YtcfohcpcepeolaaGreatDoor
open Go.Ev
set_option maxRecDepth 100000 in
set_option maxHeartbeats 8000000 in
theorem rcheck_w (l : List Int) (v : Value) (h : AHeap) (hv : IIn h v l) (hl : l.length ≤ 9223372036854775807) :
    Wc pr (.func 19) [v] h fun r h' => r = .int .i64 (checkE l) ∧ h = h' := by
  obtain ⟨a, c, rfl, hc, hv⟩ := hv
  refine wc_func Tryz.func19 rfl rfl rfl rfl ?_
  by_cases h16 : 16 < l.length
  · have y16 : (l.length : Int) > 16 := by omega
    repeat' (first
    | ((with_reducible first | refine optP_id ?_ | refine condP_id ?_ | refine condO_id ?_ | refine resP_id ?_); conv => { arg 1; simp (disch := first | assumption | omega) only [push_cast, ↓reduceIte, reduceIte, Nat.reduceEqDiff, Nat.reduceAdd, Nat.reduceSub, Nat.reduceMul, Nat.reduceBEq, Int.reduceNeg] }; first | ((with_reducible refine optP_id ?_); refine optP_some ?_) | ((with_reducible refine condP_id ?_); first | refine qcy ?_ | refine qcx ?_ | refine qco ?_ | refine condP_decn (fun hc => ?_) (fun hc => ?_) | refine condP_dec (fun hc => ?_) (fun hc => ?_) | refine qct ?_ | refine qcf ?_ | refine condP_bool (fun hc => ?_) (fun hc => ?_)) | ((with_reducible refine condO_id ?_); refine condO_some ?_) | ((with_reducible refine resP_id ?_); refine resP_one ?_))
    | refine wk_seq ?_ | refine wk_region ?_ | refine wk_block ?_ | refine wk_inBlock ?_ | refine wk_skip ?_ | refine wo_nil ?_ | refine wk_exit ?_ | refine exitK_code ?_ | refine exitK_hit ?_ | refine exitK_miss rfl ?_ | refine exitK_inLoop ?_ | refine wk_cond ?_ | refine wk_ret ?_ | refine wk_nil ?_ | refine wo_dst rfl (opR_pick ?_) | refine wo_guard rfl rfl ?_ | refine wo_guardn rfl ?_ | refine wo_dst rfl (opR_pure ?_) | refine wo_nodst (opR_pure ?_)
    | refine give_ret ?_ | refine give_end ?_)
    exact ⟨by rw [checkE, if_pos h16], rfl⟩
  · have n16 : ¬ (l.length : Int) > 16 := by omega
    repeat' (first
    | ((with_reducible first | refine optP_id ?_ | refine condP_id ?_ | refine condO_id ?_ | refine resP_id ?_); conv => { arg 1; simp (disch := first | assumption | omega) only [push_cast, ↓reduceIte, reduceIte, Nat.reduceEqDiff, Nat.reduceAdd, Nat.reduceSub, Nat.reduceMul, Nat.reduceBEq, Int.reduceNeg] }; first | ((with_reducible refine optP_id ?_); refine optP_some ?_) | ((with_reducible refine condP_id ?_); first | refine qcy ?_ | refine qcx ?_ | refine qco ?_ | refine condP_decn (fun hc => ?_) (fun hc => ?_) | refine condP_dec (fun hc => ?_) (fun hc => ?_) | refine qct ?_ | refine qcf ?_ | refine condP_bool (fun hc => ?_) (fun hc => ?_)) | ((with_reducible refine condO_id ?_); refine condO_some ?_) | ((with_reducible refine resP_id ?_); refine resP_one ?_))
    | refine wk_seq ?_ | refine wk_region ?_ | refine wk_block ?_ | refine wk_inBlock ?_ | refine wk_skip ?_ | refine wo_nil ?_ | refine wk_exit ?_ | refine exitK_code ?_ | refine exitK_hit ?_ | refine exitK_miss rfl ?_ | refine exitK_inLoop ?_ | refine wk_cond ?_ | refine wk_ret ?_ | refine wk_nil ?_ | refine wo_dst rfl (opR_pick ?_) | refine wo_guard rfl rfl ?_ | refine wo_guardn rfl ?_ | refine wo_dst rfl (opR_pure ?_) | refine wo_nodst (opR_pure ?_)
    | refine give_ret ?_ | refine give_end ?_)
    refine wk_loop (fun n E H => ∃ i : Nat, n = l.length - i ∧ i ≤ l.length ∧ h = H ∧ (∀ k (hk : k < l.length), k < i → 0 ≤ l[k] ∧ l[k] < 60) ∧ E.look 0 top = .slice a l.length c ∧ E.look 3 top = .int .i64 (i : Int)) l.length
      ⟨0, by omega, by omega, rfl, fun k _ hk => absurd hk (Nat.not_lt_zero k), by simp (disch := first | assumption | omega) only [push_cast, ↓reduceIte, reduceIte, Nat.reduceEqDiff, Nat.reduceAdd, Nat.reduceSub, Nat.reduceMul, Nat.reduceBEq, Int.reduceNeg], by simp (disch := first | assumption | omega) only [push_cast, ↓reduceIte, reduceIte, Nat.reduceEqDiff, Nat.reduceAdd, Nat.reduceSub, Nat.reduceMul, Nat.reduceBEq, Int.reduceNeg, Int.natCast_zero]⟩ ?_
    rintro n E _ ⟨i, rfl, hi, rfl, hall, e0, e3⟩ next
    by_cases hlt : i < l.length
    · have ilt : (i : Int) < (l.length : Int) := by omega
      obtain ⟨b, off, cl, rw', rfl, hb, hgb, hat⟩ := hv (by intro h; rw [h] at hlt; exact absurd hlt (Nat.not_lt_zero _))
      have h0 := at_cut1 _ _ _ (hat i hlt)
      rw [Nat.mul_one] at h0
      by_cases d0 : l[i] < 0
      · repeat' (first
    | ((with_reducible first | refine optP_id ?_ | refine condP_id ?_ | refine condO_id ?_ | refine resP_id ?_); conv => { arg 1; simp (disch := first | assumption | omega) only [push_cast, ↓reduceIte, reduceIte, Nat.reduceEqDiff, Nat.reduceAdd, Nat.reduceSub, Nat.reduceMul, Nat.reduceBEq, Int.reduceNeg, e0, e3, hgb, h0, Nat.mul_one] }; first | ((with_reducible refine optP_id ?_); refine optP_some ?_) | ((with_reducible refine condP_id ?_); first | refine qcy ?_ | refine qcx ?_ | refine qco ?_ | refine condP_decn (fun hc => ?_) (fun hc => ?_) | refine condP_dec (fun hc => ?_) (fun hc => ?_) | refine qct ?_ | refine qcf ?_ | refine condP_bool (fun hc => ?_) (fun hc => ?_)) | ((with_reducible refine condO_id ?_); refine condO_some ?_) | ((with_reducible refine resP_id ?_); refine resP_one ?_))
    | refine wk_seq ?_ | refine wk_region ?_ | refine wk_block ?_ | refine wk_inBlock ?_ | refine wk_skip ?_ | refine wo_nil ?_ | refine wk_exit ?_ | refine exitK_code ?_ | refine exitK_hit ?_ | refine exitK_miss rfl ?_ | refine exitK_inLoop ?_ | refine wk_cond ?_ | refine wk_ret ?_ | refine wk_nil ?_ | refine wo_dst rfl (opR_pick ?_) | refine wo_guard rfl rfl ?_ | refine wo_guardn rfl ?_ | refine wo_dst rfl (opR_pure ?_) | refine wo_nodst (opR_pure ?_)
    | refine give_ret ?_ | refine give_end ?_)
        exact ⟨by rw [checkE, if_neg h16, if_pos ⟨l[i], List.getElem_mem hlt, .inl d0⟩], rfl⟩
      · by_cases d1 : l[i] ≥ 60
        · repeat' (first
    | ((with_reducible first | refine optP_id ?_ | refine condP_id ?_ | refine condO_id ?_ | refine resP_id ?_); conv => { arg 1; simp (disch := first | assumption | omega) only [push_cast, ↓reduceIte, reduceIte, Nat.reduceEqDiff, Nat.reduceAdd, Nat.reduceSub, Nat.reduceMul, Nat.reduceBEq, Int.reduceNeg, e0, e3, hgb, h0, Nat.mul_one] }; first | ((with_reducible refine optP_id ?_); refine optP_some ?_) | ((with_reducible refine condP_id ?_); first | refine qcy ?_ | refine qcx ?_ | refine qco ?_ | refine condP_decn (fun hc => ?_) (fun hc => ?_) | refine condP_dec (fun hc => ?_) (fun hc => ?_) | refine qct ?_ | refine qcf ?_ | refine condP_bool (fun hc => ?_) (fun hc => ?_)) | ((with_reducible refine condO_id ?_); refine condO_some ?_) | ((with_reducible refine resP_id ?_); refine resP_one ?_))
    | refine wk_seq ?_ | refine wk_region ?_ | refine wk_block ?_ | refine wk_inBlock ?_ | refine wk_skip ?_ | refine wo_nil ?_ | refine wk_exit ?_ | refine exitK_code ?_ | refine exitK_hit ?_ | refine exitK_miss rfl ?_ | refine exitK_inLoop ?_ | refine wk_cond ?_ | refine wk_ret ?_ | refine wk_nil ?_ | refine wo_dst rfl (opR_pick ?_) | refine wo_guard rfl rfl ?_ | refine wo_guardn rfl ?_ | refine wo_dst rfl (opR_pure ?_) | refine wo_nodst (opR_pure ?_)
    | refine give_ret ?_ | refine give_end ?_)
          exact ⟨by rw [checkE, if_neg h16, if_pos ⟨l[i], List.getElem_mem hlt, .inr d1⟩], rfl⟩
        · repeat' (first
    | ((with_reducible first | refine optP_id ?_ | refine condP_id ?_ | refine condO_id ?_ | refine resP_id ?_); conv => { arg 1; simp (disch := first | assumption | omega) only [push_cast, ↓reduceIte, reduceIte, Nat.reduceEqDiff, Nat.reduceAdd, Nat.reduceSub, Nat.reduceMul, Nat.reduceBEq, Int.reduceNeg, e0, e3, hgb, h0, Nat.mul_one] }; first | ((with_reducible refine optP_id ?_); refine optP_some ?_) | ((with_reducible refine condP_id ?_); first | refine qcy ?_ | refine qcx ?_ | refine qco ?_ | refine condP_decn (fun hc => ?_) (fun hc => ?_) | refine condP_dec (fun hc => ?_) (fun hc => ?_) | refine qct ?_ | refine qcf ?_ | refine condP_bool (fun hc => ?_) (fun hc => ?_)) | ((with_reducible refine condO_id ?_); refine condO_some ?_) | ((with_reducible refine resP_id ?_); refine resP_one ?_))
    | refine wk_seq ?_ | refine wk_region ?_ | refine wk_block ?_ | refine wk_inBlock ?_ | refine wk_skip ?_ | refine wo_nil ?_ | refine wk_exit ?_ | refine exitK_code ?_ | refine exitK_hit ?_ | refine exitK_miss rfl ?_ | refine exitK_inLoop ?_ | refine wk_cond ?_ | refine wk_ret ?_ | refine wk_nil ?_ | refine wo_dst rfl (opR_pick ?_) | refine wo_guard rfl rfl ?_ | refine wo_guardn rfl ?_ | refine wo_dst rfl (opR_pure ?_) | refine wo_nodst (opR_pure ?_)
    | refine give_ret ?_ | refine give_end ?_)
          exact next (l.length - (i + 1)) _ _ (by omega) ⟨i + 1, rfl, by omega, rfl, fun k hk hk2 => if e : k = i then by subst e; omega else hall k hk (by omega), by simp (disch := first | assumption | omega) only [push_cast, ↓reduceIte, reduceIte, Nat.reduceEqDiff, Nat.reduceAdd, Nat.reduceSub, Nat.reduceMul, Nat.reduceBEq, Int.reduceNeg, e0], by simp (disch := first | assumption | omega) only [push_cast, ↓reduceIte, reduceIte, Nat.reduceEqDiff, Nat.reduceAdd, Nat.reduceSub, Nat.reduceMul, Nat.reduceBEq, Int.reduceNeg, Int.natCast_add, Int.natCast_one]⟩
    · have ilt : ¬ (i : Int) < (l.length : Int) := by omega
      have hN : ¬ hasN l := fun ⟨x, hx, hh⟩ => by
        obtain ⟨k, hk, rfl⟩ := List.getElem_of_mem hx
        have := hall k hk (by omega)
        omega
      by_cases hne : l = []
      · have n0 : ¬ (l.length : Int) > 0 := by rw [hne]; decide
        repeat' (first
    | ((with_reducible first | refine optP_id ?_ | refine condP_id ?_ | refine condO_id ?_ | refine resP_id ?_); conv => { arg 1; simp (disch := first | assumption | omega) only [push_cast, ↓reduceIte, reduceIte, Nat.reduceEqDiff, Nat.reduceAdd, Nat.reduceSub, Nat.reduceMul, Nat.reduceBEq, Int.reduceNeg, e0, e3] }; first | ((with_reducible refine optP_id ?_); refine optP_some ?_) | ((with_reducible refine condP_id ?_); first | refine qcy ?_ | refine qcx ?_ | refine qco ?_ | refine condP_decn (fun hc => ?_) (fun hc => ?_) | refine condP_dec (fun hc => ?_) (fun hc => ?_) | refine qct ?_ | refine qcf ?_ | refine condP_bool (fun hc => ?_) (fun hc => ?_)) | ((with_reducible refine condO_id ?_); refine condO_some ?_) | ((with_reducible refine resP_id ?_); refine resP_one ?_))
    | refine wk_seq ?_ | refine wk_region ?_ | refine wk_block ?_ | refine wk_inBlock ?_ | refine wk_skip ?_ | refine wo_nil ?_ | refine wk_exit ?_ | refine exitK_code ?_ | refine exitK_hit ?_ | refine exitK_miss rfl ?_ | refine exitK_inLoop ?_ | refine wk_cond ?_ | refine wk_ret ?_ | refine wk_nil ?_ | refine wo_dst rfl (opR_pick ?_) | refine wo_guard rfl rfl ?_ | refine wo_guardn rfl ?_ | refine wo_dst rfl (opR_pure ?_) | refine wo_nodst (opR_pure ?_)
    | refine give_ret ?_ | refine give_end ?_)
        exact ⟨by rw [checkE, if_neg h16, if_neg hN, if_neg (fun h => h.1 hne)], rfl⟩
      · have hpos := List.length_pos_iff.2 hne
        have y0 : (l.length : Int) > 0 := by omega
        obtain ⟨b, off, cs, rw', rfl, hb, hgb, hat⟩ := hv hne
        obtain ⟨m, hm⟩ : ∃ m, l.length = m + 1 := ⟨l.length - 1, by omega⟩
        have l1 : m < l.length := by omega
        have a0 := at_cut1 _ _ _ (hat 0 hpos)
        have a1 := at_cut1 _ _ _ (hat m l1)
        rw [Nat.mul_one] at a1
        rw [Nat.zero_mul, Nat.add_zero] at a0
        have e1 : ((l.length : Int) - 1) = (m : Int) := by omega
        have e2 : l.length - 1 = m := by omega
        have g0 : l[0]? = some l[0] := List.getElem?_eq_getElem hpos
        have g1 : l[l.length - 1]? = some l[m] := by rw [e2]; exact List.getElem?_eq_getElem l1
        by_cases z0 : l[0] = 0
        · repeat' (first
    | ((with_reducible first | refine optP_id ?_ | refine condP_id ?_ | refine condO_id ?_ | refine resP_id ?_); conv => { arg 1; simp (disch := first | assumption | omega) only [push_cast, ↓reduceIte, reduceIte, Nat.reduceEqDiff, Nat.reduceAdd, Nat.reduceSub, Nat.reduceMul, Nat.reduceBEq, Int.reduceNeg, e0, e3, hgb, a0, Nat.mul_one, e1] }; first | ((with_reducible refine optP_id ?_); refine optP_some ?_) | ((with_reducible refine condP_id ?_); first | refine qcy ?_ | refine qcx ?_ | refine qco ?_ | refine condP_decn (fun hc => ?_) (fun hc => ?_) | refine condP_dec (fun hc => ?_) (fun hc => ?_) | refine qct ?_ | refine qcf ?_ | refine condP_bool (fun hc => ?_) (fun hc => ?_)) | ((with_reducible refine condO_id ?_); refine condO_some ?_) | ((with_reducible refine resP_id ?_); refine resP_one ?_))
    | refine wk_seq ?_ | refine wk_region ?_ | refine wk_block ?_ | refine wk_inBlock ?_ | refine wk_skip ?_ | refine wo_nil ?_ | refine wk_exit ?_ | refine exitK_code ?_ | refine exitK_hit ?_ | refine exitK_miss rfl ?_ | refine exitK_inLoop ?_ | refine wk_cond ?_ | refine wk_ret ?_ | refine wk_nil ?_ | refine wo_dst rfl (opR_pick ?_) | refine wo_guard rfl rfl ?_ | refine wo_guardn rfl ?_ | refine wo_dst rfl (opR_pure ?_) | refine wo_nodst (opR_pure ?_)
    | refine give_ret ?_ | refine give_end ?_)
          exact ⟨by rw [checkE, if_neg h16, if_neg hN, if_pos ⟨hne, .inl (by rw [g0, z0])⟩], rfl⟩
        · by_cases z1 : l[m] = 0
          · repeat' (first
    | ((with_reducible first | refine optP_id ?_ | refine condP_id ?_ | refine condO_id ?_ | refine resP_id ?_); conv => { arg 1; simp (disch := first | assumption | omega) only [push_cast, ↓reduceIte, reduceIte, Nat.reduceEqDiff, Nat.reduceAdd, Nat.reduceSub, Nat.reduceMul, Nat.reduceBEq, Int.reduceNeg, e0, e3, hgb, a0, a1, Nat.mul_one, e1] }; first | ((with_reducible refine optP_id ?_); refine optP_some ?_) | ((with_reducible refine condP_id ?_); first | refine qcy ?_ | refine qcx ?_ | refine qco ?_ | refine condP_decn (fun hc => ?_) (fun hc => ?_) | refine condP_dec (fun hc => ?_) (fun hc => ?_) | refine qct ?_ | refine qcf ?_ | refine condP_bool (fun hc => ?_) (fun hc => ?_)) | ((with_reducible refine condO_id ?_); refine condO_some ?_) | ((with_reducible refine resP_id ?_); refine resP_one ?_))
    | refine wk_seq ?_ | refine wk_region ?_ | refine wk_block ?_ | refine wk_inBlock ?_ | refine wk_skip ?_ | refine wo_nil ?_ | refine wk_exit ?_ | refine exitK_code ?_ | refine exitK_hit ?_ | refine exitK_miss rfl ?_ | refine exitK_inLoop ?_ | refine wk_cond ?_ | refine wk_ret ?_ | refine wk_nil ?_ | refine wo_dst rfl (opR_pick ?_) | refine wo_guard rfl rfl ?_ | refine wo_guardn rfl ?_ | refine wo_dst rfl (opR_pure ?_) | refine wo_nodst (opR_pure ?_)
    | refine give_ret ?_ | refine give_end ?_)
            exact ⟨by rw [checkE, if_neg h16, if_neg hN, if_pos ⟨hne, .inr (by rw [g1, z1])⟩], rfl⟩
          · repeat' (first
    | ((with_reducible first | refine optP_id ?_ | refine condP_id ?_ | refine condO_id ?_ | refine resP_id ?_); conv => { arg 1; simp (disch := first | assumption | omega) only [push_cast, ↓reduceIte, reduceIte, Nat.reduceEqDiff, Nat.reduceAdd, Nat.reduceSub, Nat.reduceMul, Nat.reduceBEq, Int.reduceNeg, e0, e3, hgb, a0, a1, Nat.mul_one, e1] }; first | ((with_reducible refine optP_id ?_); refine optP_some ?_) | ((with_reducible refine condP_id ?_); first | refine qcy ?_ | refine qcx ?_ | refine qco ?_ | refine condP_decn (fun hc => ?_) (fun hc => ?_) | refine condP_dec (fun hc => ?_) (fun hc => ?_) | refine qct ?_ | refine qcf ?_ | refine condP_bool (fun hc => ?_) (fun hc => ?_)) | ((with_reducible refine condO_id ?_); refine condO_some ?_) | ((with_reducible refine resP_id ?_); refine resP_one ?_))
    | refine wk_seq ?_ | refine wk_region ?_ | refine wk_block ?_ | refine wk_inBlock ?_ | refine wk_skip ?_ | refine wo_nil ?_ | refine wk_exit ?_ | refine exitK_code ?_ | refine exitK_hit ?_ | refine exitK_miss rfl ?_ | refine exitK_inLoop ?_ | refine wk_cond ?_ | refine wk_ret ?_ | refine wk_nil ?_ | refine wo_dst rfl (opR_pick ?_) | refine wo_guard rfl rfl ?_ | refine wo_guardn rfl ?_ | refine wo_dst rfl (opR_pure ?_) | refine wo_nodst (opR_pure ?_)
    | refine give_ret ?_ | refine give_end ?_)
            exact ⟨by rw [checkE, if_neg h16, if_neg hN, if_neg (fun h => h.2.elim (fun h => by rw [g0] at h; exact z0 (Option.some.inj h)) (fun h => by rw [g1] at h; exact z1 (Option.some.inj h)))], rfl⟩
/-- without a 0 at the end -/
def noEnd (l : List Int) : Prop := l = [] ∨ l[l.length - 1]? ≠ some 0
theorem leN_take0 {l : List Int} {m : Nat} (hm : l.length = m + 1) (h0 : l[m]? = some 0) : leN (l.take m) = leN l := by
  have hlt : m < l.length := by omega
  have := leN_take hlt
  rw [List.take_of_length_le (by omega)] at this
  rw [List.getElem?_eq_getElem hlt] at h0
  rw [this, Option.some.inj h0]
  simp
set_option maxRecDepth 100000 in
set_option maxHeartbeats 8000000 in
theorem trim_w (l : List Int) (hd : digs l) (v : Value) (h : AHeap) (hv : IIn h v l) (hl : l.length ≤ 1000) :
    Wc pr (.func 120) [v] h fun r h' => (∃ m a c, r = .slice a m.length c ∧ IIn h (.slice a m.length c) m ∧ digs m ∧ noEnd m ∧ leN m = leN l ∧ m.length ≤ l.length ∧ (noEnd l → m = l)) ∧ h = h' := by
  obtain ⟨a, c, rfl, _⟩ := id hv
  refine wc_func Tryz.func120 rfl rfl rfl rfl ?_
  repeat' (first
    | ((with_reducible first | refine optP_id ?_ | refine condP_id ?_ | refine condO_id ?_ | refine resP_id ?_); conv => { arg 1; simp (disch := first | assumption | omega) only [push_cast, ↓reduceIte, reduceIte, Nat.reduceEqDiff, Nat.reduceAdd, Nat.reduceSub, Nat.reduceMul, Nat.reduceBEq, Int.reduceNeg] }; first | ((with_reducible refine optP_id ?_); refine optP_some ?_) | ((with_reducible refine condP_id ?_); first | refine qcy ?_ | refine qcx ?_ | refine qco ?_ | refine condP_decn (fun hc => ?_) (fun hc => ?_) | refine condP_dec (fun hc => ?_) (fun hc => ?_) | refine qct ?_ | refine qcf ?_ | refine condP_bool (fun hc => ?_) (fun hc => ?_)) | ((with_reducible refine condO_id ?_); refine condO_some ?_) | ((with_reducible refine resP_id ?_); refine resP_one ?_))
    | refine wk_seq ?_ | refine wk_region ?_ | refine wk_block ?_ | refine wk_inBlock ?_ | refine wk_skip ?_ | refine wo_nil ?_ | refine wk_exit ?_ | refine exitK_code ?_ | refine exitK_hit ?_ | refine exitK_miss rfl ?_ | refine exitK_inLoop ?_ | refine wk_cond ?_ | refine wk_ret ?_ | refine wk_nil ?_ | refine wo_dst rfl (opR_pick ?_) | refine wo_guard rfl rfl ?_ | refine wo_guardn rfl ?_ | refine wo_dst rfl (opR_pure ?_) | refine wo_nodst (opR_pure ?_)
    | refine give_ret ?_ | refine give_end ?_)
  refine wk_loop (fun n E H => ∃ (m : List Int) (a : Option Addr) (c : Nat), n = m.length ∧ h = H ∧ IIn h (.slice a m.length c) m ∧ digs m ∧ leN m = leN l ∧ m.length ≤ l.length ∧ (noEnd l → m = l) ∧ E.look 0 top = .slice a m.length c) l.length
    ⟨l, a, c, rfl, rfl, hv, hd, rfl, Nat.le_refl _, fun _ => rfl, by simp (disch := first | assumption | omega) only [push_cast, ↓reduceIte, reduceIte, Nat.reduceEqDiff, Nat.reduceAdd, Nat.reduceSub, Nat.reduceMul, Nat.reduceBEq, Int.reduceNeg]⟩ ?_
  rintro n E _ ⟨m, a, c, rfl, rfl, im, dm, vm, lm, hme, e0⟩ next
  by_cases hne : m = []
  · have n0 : ¬ (m.length : Int) > 0 := by rw [hne]; decide
    repeat' (first
    | ((with_reducible first | refine optP_id ?_ | refine condP_id ?_ | refine condO_id ?_ | refine resP_id ?_); conv => { arg 1; simp (disch := first | assumption | omega) only [push_cast, ↓reduceIte, reduceIte, Nat.reduceEqDiff, Nat.reduceAdd, Nat.reduceSub, Nat.reduceMul, Nat.reduceBEq, Int.reduceNeg, e0] }; first | ((with_reducible refine optP_id ?_); refine optP_some ?_) | ((with_reducible refine condP_id ?_); first | refine qcy ?_ | refine qcx ?_ | refine qco ?_ | refine condP_decn (fun hc => ?_) (fun hc => ?_) | refine condP_dec (fun hc => ?_) (fun hc => ?_) | refine qct ?_ | refine qcf ?_ | refine condP_bool (fun hc => ?_) (fun hc => ?_)) | ((with_reducible refine condO_id ?_); refine condO_some ?_) | ((with_reducible refine resP_id ?_); refine resP_one ?_))
    | refine wk_seq ?_ | refine wk_region ?_ | refine wk_block ?_ | refine wk_inBlock ?_ | refine wk_skip ?_ | refine wo_nil ?_ | refine wk_exit ?_ | refine exitK_code ?_ | refine exitK_hit ?_ | refine exitK_miss rfl ?_ | refine exitK_inLoop ?_ | refine wk_cond ?_ | refine wk_ret ?_ | refine wk_nil ?_ | refine wo_dst rfl (opR_pick ?_) | refine wo_guard rfl rfl ?_ | refine wo_guardn rfl ?_ | refine wo_dst rfl (opR_pure ?_) | refine wo_nodst (opR_pure ?_)
    | refine give_ret ?_ | refine give_end ?_)
    exact ⟨⟨m, a, c, rfl, im, dm, .inl hne, vm, lm, hme⟩, rfl⟩
  · have hpos := List.length_pos_iff.2 hne
    have y0 : (m.length : Int) > 0 := by omega
    obtain ⟨k, hk⟩ : ∃ k, m.length = k + 1 := ⟨m.length - 1, by omega⟩
    have l1 : k < m.length := by omega
    have e1 : ((m.length : Int) - 1) = (k : Int) := by omega
    have e2 : m.length - 1 = k := by omega
    obtain ⟨v4, hsl, hin4⟩ := slice_to im (j := k) (by omega)
    obtain ⟨a4, c4, rfl, q1, q2⟩ := hin4
    have hin4 : IIn h (.slice a4 (m.take k).length c4) (m.take k) := ⟨a4, c4, rfl, q1, q2⟩
    have im' := im
    obtain ⟨_, _, e3, _, hv3⟩ := im
    cases e3
    obtain ⟨b3, off3, cs3, rw3, rfl, hb3, hgb3, hat3⟩ := hv3 hne
    have a1 := at_cut1 _ _ _ (hat3 k l1)
    rw [Nat.mul_one] at a1
    have g1 : m[m.length - 1]? = some m[k] := by rw [e2]; exact List.getElem?_eq_getElem l1
    by_cases z1 : m[k] = 0
    · repeat' (first
    | ((with_reducible first | refine optP_id ?_ | refine condP_id ?_ | refine condO_id ?_ | refine resP_id ?_); conv => { arg 1; simp (disch := first | assumption | omega) only [push_cast, ↓reduceIte, reduceIte, Nat.reduceEqDiff, Nat.reduceAdd, Nat.reduceSub, Nat.reduceMul, Nat.reduceBEq, Int.reduceNeg, e0, hgb3, a1, Nat.mul_one, e1] }; first | ((with_reducible refine optP_id ?_); refine optP_some ?_) | ((with_reducible refine condP_id ?_); first | refine qcy ?_ | refine qcx ?_ | refine qco ?_ | refine condP_decn (fun hc => ?_) (fun hc => ?_) | refine condP_dec (fun hc => ?_) (fun hc => ?_) | refine qct ?_ | refine qcf ?_ | refine condP_bool (fun hc => ?_) (fun hc => ?_)) | ((with_reducible refine condO_id ?_); refine condO_some ?_) | ((with_reducible refine resP_id ?_); refine resP_one ?_))
    | refine wk_seq ?_ | refine wk_region ?_ | refine wk_block ?_ | refine wk_inBlock ?_ | refine wk_skip ?_ | refine wo_nil ?_ | refine wk_exit ?_ | refine exitK_code ?_ | refine exitK_hit ?_ | refine exitK_miss rfl ?_ | refine exitK_inLoop ?_ | refine wk_cond ?_ | refine wk_ret ?_ | refine wk_nil ?_ | refine wo_dst rfl (opR_pick ?_) | refine wo_guard rfl rfl ?_ | refine wo_guardn rfl ?_ | refine wo_dst rfl (opR_pure ?_) | refine wo_nodst (opR_pure ?_)
    | refine give_ret ?_ | refine give_end ?_)
      conv => { arg 1; simp (disch := first | assumption | omega) only [push_cast, ↓reduceIte, reduceIte, Nat.reduceEqDiff, Nat.reduceAdd, Nat.reduceSub, Nat.reduceMul, Nat.reduceBEq, Int.reduceNeg, sl22] }
      rw [hsl]
      refine optP_some ?_
      repeat' (first
    | ((with_reducible first | refine optP_id ?_ | refine condP_id ?_ | refine condO_id ?_ | refine resP_id ?_); conv => { arg 1; simp (disch := first | assumption | omega) only [push_cast, ↓reduceIte, reduceIte, Nat.reduceEqDiff, Nat.reduceAdd, Nat.reduceSub, Nat.reduceMul, Nat.reduceBEq, Int.reduceNeg, e0] }; first | ((with_reducible refine optP_id ?_); refine optP_some ?_) | ((with_reducible refine condP_id ?_); first | refine qcy ?_ | refine qcx ?_ | refine qco ?_ | refine condP_decn (fun hc => ?_) (fun hc => ?_) | refine condP_dec (fun hc => ?_) (fun hc => ?_) | refine qct ?_ | refine qcf ?_ | refine condP_bool (fun hc => ?_) (fun hc => ?_)) | ((with_reducible refine condO_id ?_); refine condO_some ?_) | ((with_reducible refine resP_id ?_); refine resP_one ?_))
    | refine wk_seq ?_ | refine wk_region ?_ | refine wk_block ?_ | refine wk_inBlock ?_ | refine wk_skip ?_ | refine wo_nil ?_ | refine wk_exit ?_ | refine exitK_code ?_ | refine exitK_hit ?_ | refine exitK_miss rfl ?_ | refine exitK_inLoop ?_ | refine wk_cond ?_ | refine wk_ret ?_ | refine wk_nil ?_ | refine wo_dst rfl (opR_pick ?_) | refine wo_guard rfl rfl ?_ | refine wo_guardn rfl ?_ | refine wo_dst rfl (opR_pure ?_) | refine wo_nodst (opR_pure ?_)
    | refine give_ret ?_ | refine give_end ?_)
      refine next (m.take k).length _ _ (by rw [List.length_take]; omega) ⟨m.take k, a4, c4, rfl, rfl, hin4, digs_take dm k, ?_, by rw [List.length_take]; omega, fun hh => ?_, by simp (disch := first | assumption | omega) only [push_cast, ↓reduceIte, reduceIte, Nat.reduceEqDiff, Nat.reduceAdd, Nat.reduceSub, Nat.reduceMul, Nat.reduceBEq, Int.reduceNeg]⟩
      · rw [leN_take0 hk (by rw [List.getElem?_eq_getElem l1, z1]), vm]
      · rcases hh with hh | hh
        · have := hme (.inl hh)
          exact absurd (by rw [this, hh]) hne
        · have hm2 := hme (.inr hh)
          rw [← hm2] at hh
          exact absurd (by rw [g1, z1]) hh
    · repeat' (first
    | ((with_reducible first | refine optP_id ?_ | refine condP_id ?_ | refine condO_id ?_ | refine resP_id ?_); conv => { arg 1; simp (disch := first | assumption | omega) only [push_cast, ↓reduceIte, reduceIte, Nat.reduceEqDiff, Nat.reduceAdd, Nat.reduceSub, Nat.reduceMul, Nat.reduceBEq, Int.reduceNeg, e0, hgb3, a1, Nat.mul_one, e1] }; first | ((with_reducible refine optP_id ?_); refine optP_some ?_) | ((with_reducible refine condP_id ?_); first | refine qcy ?_ | refine qcx ?_ | refine qco ?_ | refine condP_decn (fun hc => ?_) (fun hc => ?_) | refine condP_dec (fun hc => ?_) (fun hc => ?_) | refine qct ?_ | refine qcf ?_ | refine condP_bool (fun hc => ?_) (fun hc => ?_)) | ((with_reducible refine condO_id ?_); refine condO_some ?_) | ((with_reducible refine resP_id ?_); refine resP_one ?_))
    | refine wk_seq ?_ | refine wk_region ?_ | refine wk_block ?_ | refine wk_inBlock ?_ | refine wk_skip ?_ | refine wo_nil ?_ | refine wk_exit ?_ | refine exitK_code ?_ | refine exitK_hit ?_ | refine exitK_miss rfl ?_ | refine exitK_inLoop ?_ | refine wk_cond ?_ | refine wk_ret ?_ | refine wk_nil ?_ | refine wo_dst rfl (opR_pick ?_) | refine wo_guard rfl rfl ?_ | refine wo_guardn rfl ?_ | refine wo_dst rfl (opR_pure ?_) | refine wo_nodst (opR_pure ?_)
    | refine give_ret ?_ | refine give_end ?_)
      exact ⟨⟨m, _, c, rfl, im', dm, .inr (fun hh => z1 (by rw [g1] at hh; exact Option.some.inj hh)), vm, lm, hme⟩, rfl⟩
end Go.Proofs.YtcfohcpcepeolaaGreatDoor
/- Contracts of the reference: big, digits. -/
namespace Go.Proofs.YtcfohcpcepeolaaGreatDoor
open Go.Ev
theorem leN_rev : ∀ l : List Int, leN l.reverse = valN l
  | [] => rfl
  | d :: t => by
    rw [List.reverse_cons, leN_app, leN_rev t, List.length_reverse, valN]
    simp only [leN]
    rw [Nat.mul_zero, Nat.add_zero, Nat.mul_comm, Nat.add_comm]
theorem rdrop_step {l : List Int} {k : Nat} (hk : k < l.length) : (l.drop k).reverse = (l.drop (k + 1)).reverse ++ [l[k]] := by
  rw [List.drop_eq_getElem_cons hk, List.reverse_cons]
theorem rdrop_top (l : List Int) : (l.drop l.length).reverse = [] := by simp
theorem digs_rdrop {l : List Int} (h : digs l) (k : Nat) : digs (l.drop k).reverse := fun x hx => h x (List.mem_of_mem_drop (List.mem_reverse.1 hx))
def OwnI (base : Nat) (H : AHeap) (L : List Int) (b : Nat) : Prop := L ≠ [] → base ≤ b ∧ b < H.next ∧ H.get b = some (.cells (flatE encI L) 3 true)
theorem own_base {base : Nat} {H : AHeap} {L : List Int} {b b' o' : Nat} {q' : Option Nat} (h : OwnI base H L b) (e : ownB L b = some ⟨b', o', q'⟩) : base ≤ b' := by
  cases L with
  | nil => cases e
  | cons x L =>
    have e2 : some (⟨b, 0, none⟩ : Addr) = some ⟨b', o', q'⟩ := e
    cases e2
    exact (h (by simp)).1
theorem IIn.set {H : AHeap} {a : Option Addr} {n c q : Nat} {l : List Int} {ob : AObj} (h : IIn H (.slice a n c) l) (hb : ∀ b o s, a = some ⟨b, o, s⟩ → b ≠ q) : IIn (H.set q ob) (.slice a n c) l := by
  obtain ⟨a', c', e, hc, hv⟩ := h
  cases e
  refine ⟨a, c, rfl, hc, fun hne => ?_⟩
  obtain ⟨b, off, all, rw', h1, h2, h3, h4⟩ := hv hne
  refine ⟨b, off, all, rw', h1, by rw [next_set]; exact h2, ?_, h4⟩
  rw [get_set_ne (fun e => hb _ _ _ h1 e.symm)]
  exact h3
theorem OwnI.inn {base : Nat} {H : AHeap} {L : List Int} {b : Nat} (h : OwnI base H L b) (hl : L.length ≤ 100000) : IIn H (.slice (ownB L b) L.length L.length) L :=
  own_in encI_len (by rw [(capLo_small (c := L.length) (by unfold EX; omega)).1]; exact Nat.le_refl _) (fun hn => (h hn).2.1) (fun hn => ⟨true, (h hn).2.2⟩)
theorem low0 : ∀ {l : List Int} {z : Nat}, z ≤ l.length → (∀ j (hj : j < l.length), j < z → l[j] = 0) → leN (l.drop z) * 60 ^ z = leN l
  | l, 0, _, _ => by simp
  | [], z + 1, h, _ => absurd h (Nat.not_succ_le_zero z)
  | d :: t, z + 1, h, h0 => by
    have hd : d = 0 := h0 0 (by simp) (by omega)
    have ih := low0 (l := t) (z := z) (by simpa using h) (fun j hj hjz => by
      have := h0 (j + 1) (by simpa using hj) (by omega)
      simpa using this)
    rw [List.drop_succ_cons, Nat.pow_succ, ← Nat.mul_assoc, ih, leN, hd]
    simp [Nat.mul_comm]
theorem valid_rdrop {l : List Int} {z : Nat} (hd : digs l) (he : noEnd l) (hz : z < l.length) (h0 : l[z]'hz ≠ 0) : valid (l.drop z).reverse := by
  have hlen : (l.drop z).length = l.length - z := List.length_drop
  refine ⟨digs_rdrop hd z, ?_, fun _ => ?_⟩
  · rw [List.getElem?_reverse (by omega), List.getElem?_drop, hlen, show z + (l.length - z - 1 - 0) = l.length - 1 by omega]
    rcases he with h | h
    · rw [h] at hz; exact absurd hz (Nat.not_lt_zero _)
    · exact h
  · rw [List.length_reverse, List.getElem?_reverse (by omega), List.getElem?_drop, hlen, show z + (l.length - z - 1 - (l.length - z - 1)) = z by omega, List.getElem?_eq_getElem hz]
    intro h
    exact h0 (Option.some.inj h)
set_option maxRecDepth 100000 in
set_option maxHeartbeats 8000000 in
theorem rdigits_w (l : List Int) (hd : digs l) (he : noEnd l) (ll : l.length ≤ 1000) (v : Value) (h : AHeap) (hv : IIn h v l) :
    Wc pr (.func 71) [v] h fun r h' => (∃ d a c z, r = .tuple #[.slice a d.length c, .int .i64 ((z : Nat) : Int)] ∧ IIn h' (.slice a d.length c) d ∧ nf (leN l) d ∧ (d ≠ [] → valN d * 60 ^ z = leN l) ∧ z ≤ l.length ∧ (∀ b o q, a = some ⟨b, o, q⟩ → h.next ≤ b)) ∧ Gr h h' := by
  obtain ⟨a, c, rfl, _, hv'⟩ := id hv
  refine wc_func Tryz.func71 rfl rfl rfl rfl ?_
  repeat' (first
    | ((with_reducible first | refine optP_id ?_ | refine condP_id ?_ | refine condO_id ?_ | refine resP_id ?_); conv => { arg 1; simp (disch := first | assumption | omega) only [push_cast, ↓reduceIte, reduceIte, Nat.reduceEqDiff, Nat.reduceAdd, Nat.reduceSub, Nat.reduceMul, Nat.reduceBEq, Int.reduceNeg] }; first | ((with_reducible refine optP_id ?_); refine optP_some ?_) | ((with_reducible refine condP_id ?_); first | refine qcy ?_ | refine qcx ?_ | refine qco ?_ | refine condP_decn (fun hc => ?_) (fun hc => ?_) | refine condP_dec (fun hc => ?_) (fun hc => ?_) | refine qct ?_ | refine qcf ?_ | refine condP_bool (fun hc => ?_) (fun hc => ?_)) | ((with_reducible refine condO_id ?_); refine condO_some ?_) | ((with_reducible refine resP_id ?_); refine resP_two ?_))
    | refine wk_seq ?_ | refine wk_region ?_ | refine wk_block ?_ | refine wk_inBlock ?_ | refine wk_skip ?_ | refine wo_nil ?_ | refine wk_exit ?_ | refine exitK_code ?_ | refine exitK_hit ?_ | refine exitK_miss rfl ?_ | refine exitK_inLoop ?_ | refine wk_cond ?_ | refine wk_ret ?_ | refine wk_nil ?_ | refine wo_dst rfl (opR_pick ?_) | refine wo_guard rfl rfl ?_ | refine wo_guardn rfl ?_ | refine wo_dst rfl (opR_pure ?_) | refine wo_nodst (opR_pure ?_)
    | refine give_ret ?_ | refine give_end ?_)
  refine wk_loop (fun n E H => ∃ z : Nat, n = l.length - z ∧ z ≤ l.length ∧ h = H ∧ (∀ j (hj : j < l.length), j < z → l[j] = 0) ∧ E.look 0 top = .slice a l.length c ∧ E.look 4 top = .int .i64 (z : Int)) l.length
    ⟨0, by omega, by omega, rfl, fun j _ hj => absurd hj (Nat.not_lt_zero j), by simp (disch := first | assumption | omega) only [push_cast, ↓reduceIte, reduceIte, Nat.reduceEqDiff, Nat.reduceAdd, Nat.reduceSub, Nat.reduceMul, Nat.reduceBEq, Int.reduceNeg], by simp (disch := first | assumption | omega) only [push_cast, ↓reduceIte, reduceIte, Nat.reduceEqDiff, Nat.reduceAdd, Nat.reduceSub, Nat.reduceMul, Nat.reduceBEq, Int.reduceNeg, Int.natCast_zero]⟩ ?_
  rintro n E _ ⟨z, rfl, hz, rfl, hall, e0, e4⟩ next
  by_cases hgo : l[z]? = some 0
  · have hlt : z < l.length := by
      rcases Nat.lt_or_ge z l.length with q | q
      · exact q
      · rw [List.getElem?_eq_none q] at hgo; cases hgo
    have ilt : (z : Int) < (l.length : Int) := by omega
    have hz0 : l[z] = 0 := by rw [List.getElem?_eq_getElem hlt] at hgo; exact Option.some.inj hgo
    obtain ⟨bu, offu, allu, rwu, rfl, hbu, hgu, htu⟩ := hv' (by intro h; rw [h] at hlt; exact absurd hlt (Nat.not_lt_zero _))
    have h1 := at_cut1 _ _ _ (htu z hlt)
    rw [Nat.mul_one] at h1
    repeat' (first
    | ((with_reducible first | refine optP_id ?_ | refine condP_id ?_ | refine condO_id ?_ | refine resP_id ?_); conv => { arg 1; simp (disch := first | assumption | omega) only [push_cast, ↓reduceIte, reduceIte, Nat.reduceEqDiff, Nat.reduceAdd, Nat.reduceSub, Nat.reduceMul, Nat.reduceBEq, Int.reduceNeg, e0, e4, hgu, h1, Nat.mul_one] }; first | ((with_reducible refine optP_id ?_); refine optP_some ?_) | ((with_reducible refine condP_id ?_); first | refine qcy ?_ | refine qcx ?_ | refine qco ?_ | refine condP_decn (fun hc => ?_) (fun hc => ?_) | refine condP_dec (fun hc => ?_) (fun hc => ?_) | refine qct ?_ | refine qcf ?_ | refine condP_bool (fun hc => ?_) (fun hc => ?_)) | ((with_reducible refine condO_id ?_); refine condO_some ?_) | ((with_reducible refine resP_id ?_); refine resP_two ?_))
    | refine wk_seq ?_ | refine wk_region ?_ | refine wk_block ?_ | refine wk_inBlock ?_ | refine wk_skip ?_ | refine wo_nil ?_ | refine wk_exit ?_ | refine exitK_code ?_ | refine exitK_hit ?_ | refine exitK_miss rfl ?_ | refine exitK_inLoop ?_ | refine wk_cond ?_ | refine wk_ret ?_ | refine wk_nil ?_ | refine wo_dst rfl (opR_pick ?_) | refine wo_guard rfl rfl ?_ | refine wo_guardn rfl ?_ | refine wo_dst rfl (opR_pure ?_) | refine wo_nodst (opR_pure ?_)
    | refine give_ret ?_ | refine give_end ?_)
    exact next (l.length - (z + 1)) _ _ (by omega) ⟨z + 1, rfl, by omega, rfl, fun j hj hj2 => if e : j = z then by subst e; exact hz0 else hall j hj (by omega), by simp (disch := first | assumption | omega) only [push_cast, ↓reduceIte, reduceIte, Nat.reduceEqDiff, Nat.reduceAdd, Nat.reduceSub, Nat.reduceMul, Nat.reduceBEq, Int.reduceNeg, e0], by simp (disch := first | assumption | omega) only [push_cast, ↓reduceIte, reduceIte, Nat.reduceEqDiff, Nat.reduceAdd, Nat.reduceSub, Nat.reduceMul, Nat.reduceBEq, Int.reduceNeg, Int.natCast_add, Int.natCast_one]⟩
  · have hnf : nf (leN l) (l.drop z).reverse := by
      have hlow := low0 hz hall
      by_cases hlt : z < l.length
      · have h0 : l[z] ≠ 0 := fun hh => hgo (by rw [List.getElem?_eq_getElem hlt, hh])
        have hvd := valid_rdrop hd he hlt h0
        have hne : (l.drop z).reverse ≠ [] := fun hh => by
          have := congrArg List.length hh
          rw [List.length_reverse, List.length_drop] at this
          simp at this; omega
        have hval : valN (l.drop z).reverse = leN (l.drop z) := by rw [← leN_rev, List.reverse_reverse]
        refine ⟨hvd, ⟨fun hh => absurd hh hne, fun hh => ?_⟩, z, by rw [hval, hlow]⟩
        have hp := valN_pos hvd hne
        rw [hval] at hp
        have := Nat.mul_pos hp (pow60_pos z)
        omega
      · obtain rfl : z = l.length := by omega
        rw [rdrop_top]
        rw [List.drop_length] at hlow
        have : leN l = 0 := by rw [← hlow]; simp [leN]
        exact ⟨valid_nil, ⟨fun _ => this, fun _ => rfl⟩, 0, by rw [this]; rfl⟩
    have hzv : valN (l.drop z).reverse * 60 ^ z = leN l := by rw [← leN_rev, List.reverse_reverse]; exact low0 hz hall
    by_cases hlt : z < l.length
    case' pos =>
      have ilt : (z : Int) < (l.length : Int) := by omega
      have hz0 : ¬ l[z] = 0 := fun hh => hgo (by rw [List.getElem?_eq_getElem hlt, hh])
      obtain ⟨bu, offu, allu, rwu, hau, hbu, hgu, htu⟩ := hv' (by intro h; rw [h] at hlt; exact absurd hlt (Nat.not_lt_zero _))
      have h1 := at_cut1 _ _ _ (htu z hlt)
      rw [Nat.mul_one] at h1
      have e0' : E.look 0 top = .slice (some ⟨bu, offu, none⟩) l.length c := by rw [e0, hau]
      repeat' (first
    | ((with_reducible first | refine optP_id ?_ | refine condP_id ?_ | refine condO_id ?_ | refine resP_id ?_); conv => { arg 1; simp (disch := first | assumption | omega) only [push_cast, ↓reduceIte, reduceIte, Nat.reduceEqDiff, Nat.reduceAdd, Nat.reduceSub, Nat.reduceMul, Nat.reduceBEq, Int.reduceNeg, e0', e4, hgu, h1, Nat.mul_one] }; first | ((with_reducible refine optP_id ?_); refine optP_some ?_) | ((with_reducible refine condP_id ?_); first | refine qcy ?_ | refine qcx ?_ | refine qco ?_ | refine condP_decn (fun hc => ?_) (fun hc => ?_) | refine condP_dec (fun hc => ?_) (fun hc => ?_) | refine qct ?_ | refine qcf ?_ | refine condP_bool (fun hc => ?_) (fun hc => ?_)) | ((with_reducible refine condO_id ?_); refine condO_some ?_) | ((with_reducible refine resP_id ?_); refine resP_two ?_))
    | refine wk_seq ?_ | refine wk_region ?_ | refine wk_block ?_ | refine wk_inBlock ?_ | refine wk_skip ?_ | refine wo_nil ?_ | refine wk_exit ?_ | refine exitK_code ?_ | refine exitK_hit ?_ | refine exitK_miss rfl ?_ | refine exitK_inLoop ?_ | refine wk_cond ?_ | refine wk_ret ?_ | refine wk_nil ?_ | refine wo_dst rfl (opR_pick ?_) | refine wo_guard rfl rfl ?_ | refine wo_guardn rfl ?_ | refine wo_dst rfl (opR_pure ?_) | refine wo_nodst (opR_pure ?_)
    | refine give_ret ?_ | refine give_end ?_)
    case' neg =>
      have ilt : ¬ (z : Int) < (l.length : Int) := by omega
      repeat' (first
    | ((with_reducible first | refine optP_id ?_ | refine condP_id ?_ | refine condO_id ?_ | refine resP_id ?_); conv => { arg 1; simp (disch := first | assumption | omega) only [push_cast, ↓reduceIte, reduceIte, Nat.reduceEqDiff, Nat.reduceAdd, Nat.reduceSub, Nat.reduceMul, Nat.reduceBEq, Int.reduceNeg, e0, e4] }; first | ((with_reducible refine optP_id ?_); refine optP_some ?_) | ((with_reducible refine condP_id ?_); first | refine qcy ?_ | refine qcx ?_ | refine qco ?_ | refine condP_decn (fun hc => ?_) (fun hc => ?_) | refine condP_dec (fun hc => ?_) (fun hc => ?_) | refine qct ?_ | refine qcf ?_ | refine condP_bool (fun hc => ?_) (fun hc => ?_)) | ((with_reducible refine condO_id ?_); refine condO_some ?_) | ((with_reducible refine resP_id ?_); refine resP_two ?_))
    | refine wk_seq ?_ | refine wk_region ?_ | refine wk_block ?_ | refine wk_inBlock ?_ | refine wk_skip ?_ | refine wo_nil ?_ | refine wk_exit ?_ | refine exitK_code ?_ | refine exitK_hit ?_ | refine exitK_miss rfl ?_ | refine exitK_inLoop ?_ | refine wk_cond ?_ | refine wk_ret ?_ | refine wk_nil ?_ | refine wo_dst rfl (opR_pick ?_) | refine wo_guard rfl rfl ?_ | refine wo_guardn rfl ?_ | refine wo_dst rfl (opR_pure ?_) | refine wo_nodst (opR_pure ?_)
    | refine give_ret ?_ | refine give_end ?_)
    all_goals
      refine wk_loop (fun n E H => ∃ (k b : Nat), n = k - z ∧ z ≤ k ∧ k ≤ l.length ∧ OwnI h.next H (l.drop k).reverse b ∧ Gr h H ∧ E.look 0 top = .slice a l.length c ∧ E.look 4 top = .int .i64 (z : Int) ∧ E.look 5 top = .slice (ownB (l.drop k).reverse b) (l.drop k).reverse.length (l.drop k).reverse.length ∧ E.look 6 top = .int .i64 ((k : Int) - 1)) (l.length - z)
        ⟨l.length, 0, rfl, hz, Nat.le_refl _, fun hn => absurd (rdrop_top l) hn, by (repeat (first | exact Gr.refl _ | assumption | (refine Gr.trans ?_ (by assumption)) | refine Gr.set ?_ (by first | exact Nat.le_refl _ | omega | (simp only [next_new, next_set]; omega)) _ | refine Gr.new ?_ _)), by simp (disch := first | assumption | omega) only [push_cast, ↓reduceIte, reduceIte, Nat.reduceEqDiff, Nat.reduceAdd, Nat.reduceSub, Nat.reduceMul, Nat.reduceBEq, Int.reduceNeg, e0], by simp (disch := first | assumption | omega) only [push_cast, ↓reduceIte, reduceIte, Nat.reduceEqDiff, Nat.reduceAdd, Nat.reduceSub, Nat.reduceMul, Nat.reduceBEq, Int.reduceNeg, e4], by rw [rdrop_top]; simp (disch := first | assumption | omega) only [push_cast, ↓reduceIte, reduceIte, Nat.reduceEqDiff, Nat.reduceAdd, Nat.reduceSub, Nat.reduceMul, Nat.reduceBEq, Int.reduceNeg, ownB_nil, List.length_nil], by simp (disch := first | assumption | omega) only [push_cast, ↓reduceIte, reduceIte, Nat.reduceEqDiff, Nat.reduceAdd, Nat.reduceSub, Nat.reduceMul, Nat.reduceBEq, Int.reduceNeg]⟩ ?_
      rintro n2 E2 H ⟨k, b, rfl, hzk, hk, hown, gr, f0, f4, f5, f6⟩ next2
      have gn := gr.1
      by_cases hkz : k = z
      · subst hkz
        have n0 : ¬ (((k : Int) - 1) ≥ (k : Int)) := by omega
        repeat' (first
    | ((with_reducible first | refine optP_id ?_ | refine condP_id ?_ | refine condO_id ?_ | refine resP_id ?_); conv => { arg 1; simp (disch := first | assumption | omega) only [push_cast, ↓reduceIte, reduceIte, Nat.reduceEqDiff, Nat.reduceAdd, Nat.reduceSub, Nat.reduceMul, Nat.reduceBEq, Int.reduceNeg, f0, f4, f5, f6] }; first | ((with_reducible refine optP_id ?_); refine optP_some ?_) | ((with_reducible refine condP_id ?_); first | refine qcy ?_ | refine qcx ?_ | refine qco ?_ | refine condP_decn (fun hc => ?_) (fun hc => ?_) | refine condP_dec (fun hc => ?_) (fun hc => ?_) | refine qct ?_ | refine qcf ?_ | refine condP_bool (fun hc => ?_) (fun hc => ?_)) | ((with_reducible refine condO_id ?_); refine condO_some ?_) | ((with_reducible refine resP_id ?_); refine resP_two ?_))
    | refine wk_seq ?_ | refine wk_region ?_ | refine wk_block ?_ | refine wk_inBlock ?_ | refine wk_skip ?_ | refine wo_nil ?_ | refine wk_exit ?_ | refine exitK_code ?_ | refine exitK_hit ?_ | refine exitK_miss rfl ?_ | refine exitK_inLoop ?_ | refine wk_cond ?_ | refine wk_ret ?_ | refine wk_nil ?_ | refine wo_dst rfl (opR_pick ?_) | refine wo_guard rfl rfl ?_ | refine wo_guardn rfl ?_ | refine wo_dst rfl (opR_pure ?_) | refine wo_nodst (opR_pure ?_)
    | refine give_ret ?_ | refine give_end ?_)
        exact ⟨⟨_, _, _, k, rfl, OwnI.inn hown (by rw [List.length_reverse, List.length_drop]; omega), hnf, fun _ => hzv, hk, fun b' o' q' hh => own_base hown hh⟩, gr⟩
      · obtain ⟨j, rfl⟩ : ∃ j, k = j + 1 := ⟨k - 1, by omega⟩
        have ej : (((j + 1 : Nat) : Int) - 1) = (j : Int) := by omega
        rw [ej] at f6
        have hj : j < l.length := by omega
        have j0 : (j : Int) ≥ (z : Int) := by omega
        have hlen : (l.drop (j + 1)).reverse.length ≤ 1000 := by rw [List.length_reverse, List.length_drop]; omega
        have hst := rdrop_step hj
        obtain ⟨bv, offv, allv, rwv, hav, hbv, hgv, htv⟩ := hv' (by intro h; rw [h] at hj; exact absurd hj (Nat.not_lt_zero _))
        have hgvH : H.get bv = some (.cells allv 3 rwv) := by rw [gr.2 bv hbv]; exact hgv
        have h1 := at_cut1 _ _ _ (htv j hj)
        rw [Nat.mul_one] at h1
        have f0' : E2.look 0 top = .slice (some ⟨bv, offv, none⟩) l.length c := by rw [f0, hav]
        generalize l[j] = x at *
        generalize (l.drop (j + 1)).reverse = L at *
        repeat' (first
    | ((with_reducible first | refine optP_id ?_ | refine condP_id ?_ | refine condO_id ?_ | refine resP_id ?_); conv => { arg 1; simp (disch := first | assumption | omega) only [push_cast, ↓reduceIte, reduceIte, Nat.reduceEqDiff, Nat.reduceAdd, Nat.reduceSub, Nat.reduceMul, Nat.reduceBEq, Int.reduceNeg, f0', f4, f5, f6, hgvH, h1, Nat.mul_one] }; first | ((with_reducible refine optP_id ?_); refine optP_some ?_) | ((with_reducible refine condP_id ?_); first | refine qcy ?_ | refine qcx ?_ | refine qco ?_ | refine condP_decn (fun hc => ?_) (fun hc => ?_) | refine condP_dec (fun hc => ?_) (fun hc => ?_) | refine qct ?_ | refine qcf ?_ | refine condP_bool (fun hc => ?_) (fun hc => ?_)) | ((with_reducible refine condO_id ?_); refine condO_some ?_) | ((with_reducible refine resP_id ?_); refine resP_two ?_))
    | refine wk_seq ?_ | refine wk_region ?_ | refine wk_block ?_ | refine wk_inBlock ?_ | refine wk_skip ?_ | refine wo_nil ?_ | refine wk_exit ?_ | refine exitK_code ?_ | refine exitK_hit ?_ | refine exitK_miss rfl ?_ | refine exitK_inLoop ?_ | refine wk_cond ?_ | refine wk_ret ?_ | refine wk_nil ?_ | refine wo_dst rfl (opR_pick ?_) | refine wo_guard rfl rfl ?_ | refine wo_guardn rfl ?_ | refine wo_dst rfl (opR_pure ?_) | refine wo_nodst (opR_pure ?_)
    | refine give_ret ?_ | refine give_end ?_)
        conv => { arg 1; simp (disch := first | assumption | omega) only [push_cast, ↓reduceIte, reduceIte, Nat.reduceEqDiff, Nat.reduceAdd, Nat.reduceSub, Nat.reduceMul, Nat.reduceBEq, Int.reduceNeg, ap22] }
        refine optP_one (x := x) (e' := 3) (rw' := true) encI_len (fun _ => rfl) (by omega) (by omega) (fun hn => by obtain ⟨q0, q1, q2⟩ := hown hn; simp (disch := first | assumption | omega) only [push_cast, ↓reduceIte, reduceIte, Nat.reduceEqDiff, Nat.reduceAdd, Nat.reduceSub, Nat.reduceMul, Nat.reduceBEq, Int.reduceNeg]; exact q2) (by unfold encI; simp (disch := first | assumption | omega) only [push_cast, ↓reduceIte, reduceIte, Nat.reduceEqDiff, Nat.reduceAdd, Nat.reduceSub, Nat.reduceMul, Nat.reduceBEq, Int.reduceNeg]) ?_
        intro H3 n3 new3 keep3
        simp only [next_new] at n3 new3 keep3
        repeat' (first
    | ((with_reducible first | refine optP_id ?_ | refine condP_id ?_ | refine condO_id ?_ | refine resP_id ?_); conv => { arg 1; simp (disch := first | assumption | omega) only [push_cast, ↓reduceIte, reduceIte, Nat.reduceEqDiff, Nat.reduceAdd, Nat.reduceSub, Nat.reduceMul, Nat.reduceBEq, Int.reduceNeg, f0, f4, f5, f6] }; first | ((with_reducible refine optP_id ?_); refine optP_some ?_) | ((with_reducible refine condP_id ?_); first | refine qcy ?_ | refine qcx ?_ | refine qco ?_ | refine condP_decn (fun hc => ?_) (fun hc => ?_) | refine condP_dec (fun hc => ?_) (fun hc => ?_) | refine qct ?_ | refine qcf ?_ | refine condP_bool (fun hc => ?_) (fun hc => ?_)) | ((with_reducible refine condO_id ?_); refine condO_some ?_) | ((with_reducible refine resP_id ?_); refine resP_two ?_))
    | refine wk_seq ?_ | refine wk_region ?_ | refine wk_block ?_ | refine wk_inBlock ?_ | refine wk_skip ?_ | refine wo_nil ?_ | refine wk_exit ?_ | refine exitK_code ?_ | refine exitK_hit ?_ | refine exitK_miss rfl ?_ | refine exitK_inLoop ?_ | refine wk_cond ?_ | refine wk_ret ?_ | refine wk_nil ?_ | refine wo_dst rfl (opR_pick ?_) | refine wo_guard rfl rfl ?_ | refine wo_guardn rfl ?_ | refine wo_dst rfl (opR_pure ?_) | refine wo_nodst (opR_pure ?_)
    | refine give_ret ?_ | refine give_end ?_)
        refine next2 (j - z) _ _ (by omega) ⟨j, H.next + 1, rfl, by omega, by omega, by rw [hst]; exact fun _ => ⟨by omega, by omega, new3⟩, ⟨by omega, fun c hc => ?_⟩, by simp (disch := first | assumption | omega) only [push_cast, ↓reduceIte, reduceIte, Nat.reduceEqDiff, Nat.reduceAdd, Nat.reduceSub, Nat.reduceMul, Nat.reduceBEq, Int.reduceNeg, f0], by simp (disch := first | assumption | omega) only [push_cast, ↓reduceIte, reduceIte, Nat.reduceEqDiff, Nat.reduceAdd, Nat.reduceSub, Nat.reduceMul, Nat.reduceBEq, Int.reduceNeg, f4], by rw [hst]; simp (disch := first | assumption | omega) only [push_cast, ↓reduceIte, reduceIte, Nat.reduceEqDiff, Nat.reduceAdd, Nat.reduceSub, Nat.reduceMul, Nat.reduceBEq, Int.reduceNeg], by simp (disch := first | assumption | omega) only [push_cast, ↓reduceIte, reduceIte, Nat.reduceEqDiff, Nat.reduceAdd, Nat.reduceSub, Nat.reduceMul, Nat.reduceBEq, Int.reduceNeg]⟩
        rw [keep3 c (by omega) (fun hn => by have := (hown hn).1; omega)]
        simp (disch := first | assumption | omega) only [push_cast, ↓reduceIte, reduceIte, Nat.reduceEqDiff, Nat.reduceAdd, Nat.reduceSub, Nat.reduceMul, Nat.reduceBEq, Int.reduceNeg]
        exact gr.2 c hc
end Go.Proofs.YtcfohcpcepeolaaGreatDoor
namespace Go.Proofs.YtcfohcpcepeolaaGreatDoor
open Go.Ev
theorem copies_z : ∀ n : Nat, copies [Value.int .i64 0] n = ints .i64 (List.replicate n 0)
  | 0 => rfl
  | n + 1 => by
    show [Value.int .i64 0] ++ copies [Value.int .i64 0] n = _
    rw [copies_z n, List.replicate_succ]
    rfl
theorem mk22' (n : Nat) : makeSliceA Tryz.prog 22 (.int .i64 (n : Int)) (.int .i64 (n : Int)) = cond (Nat.ble n n && Nat.ble n 1000000 && Nat.ble (n * 8) 1000000000) (some (.cells (copies [.int .i64 0] n) 3 true, fun b => .slice (some ⟨b, 0, none⟩) n (EX + n))) none := by kernel_rfl
theorem mk22 (n : Nat) (hn : n ≤ 1000) : makeSliceA Tryz.prog 22 (.int .i64 (n : Int)) (.int .i64 (n : Int)) = some (.cells (ints .i64 (List.replicate n 0)) 3 true, fun b => .slice (some ⟨b, 0, none⟩) n (EX + n)) := by
  rw [mk22', ble_yes (Nat.le_refl n), ble_yes (show n ≤ 1000000 by omega), ble_yes (show n * 8 ≤ 1000000000 by omega), copies_z]
  rfl
theorem flatI : ∀ l : List Int, flatE encI l = ints .i64 l
  | [] => rfl
  | x :: l => by
    rw [flatE_cons, flatI l]
    rfl
theorem ints_inI {H : AHeap} {b c : Nat} {l : List Int} {rw' : Bool} (hb : b < H.next) (hc : l.length ≤ capLo c) (hg : H.get b = some (.cells (ints .i64 l) 3 rw')) : IIn H (.slice (some ⟨b, 0, none⟩) l.length c) l :=
  ⟨_, c, rfl, hc, fun _ => ⟨b, 0, _, rw', rfl, hb, hg, fun i hi => by rw [Nat.zero_add, ← flatI]; exact flatE_cut encI_len l hi⟩⟩
theorem leN_ge {l : List Int} {k : Nat} (hk : k < l.length) : (l[k]).toNat * 60 ^ k ≤ leN l := by
  have := leN_set hk 0
  simp at this
  omega
end Go.Proofs.YtcfohcpcepeolaaGreatDoor
