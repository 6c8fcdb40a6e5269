/- The walk of the law PlaceRatios. -/
import Derived.Test.YtcfohcpcepeolaaGreatDoorVO
import Derived.Test.YtcfohcpcepeolaaGreatDoorVL
import Derived.Test.YtcfohcpcepeolaaGreatDoorVR
import Derived.Test.YtcfohcpcepeolaaGreatDoorVN
set_option linter.unusedSimpArgs false
set_option linter.unusedVariables false
/- Contract: the reference's FromRatio. -/
namespace Go.Proofs.YtcfohcpcepeolaaGreatDoor
open Go.Ev
theorem plR.setQ {X : Nat} {s sh : Int} {v : Value} {H : AHeap} {q e' : Nat} {ob : AObj} {C : List Value} {rw' : Bool} (p : plR X s v sh H) (hq : H.get q = some (.cells C e' rw')) (he : e' ≠ 3) : plR X s v sh (H.set q ob) := by
  rcases p with p | ⟨p, d, e, i, r⟩
  · exact .inl p
  · exact .inr ⟨p, d, e, IIn.setQ i hq he, r⟩
/-- what the reference's FromRatio returns -/
def rfrR (n d : Int) (r : Value) (H : AHeap) : Prop :=
  (¬ (IsR n d ∧ 0 ≤ n) ∧ r = errP 2) ∨
  ((IsR n d ∧ 0 ≤ n) ∧ ((irr d.toNat ∧ r = errP 31) ∨ (∃ a b c : Nat, d.toNat = 2 ^ a * 3 ^ b * 5 ^ c) ∧ ∃ (K : Nat) (w : Value) (sh : Int), K ≤ 12 ∧ n.toNat * 60 ^ K % d.toNat = 0 ∧ r = .tuple #[.agg #[w, .int .i64 sh], .int .i64 0] ∧ plR (n.toNat * 60 ^ K / d.toNat) (-(K : Int)) w sh H))
set_option maxRecDepth 100000 in
set_option maxHeartbeats 16000000 in
theorem rfromratio_w (n d : Int) (h1 : -9223372036854775808 ≤ n) (h2 : n ≤ 9223372036854775807) (h : AHeap) :
    Wc pr (.func 46) [.agg #[.int .i64 n, .int .i64 d]] h fun r h' => rfrR n d r h' ∧ Gr h h' := by
  refine wc_func Tryz.func46 rfl rfl rfl rfl ?_
  repeat' (first
    | ((with_reducible first | refine optP_id ?_ | refine condP_id ?_ | refine condO_id ?_ | refine resP_id ?_ | refine callT_of ?_); conv => { arg 1; simp (disch := first | assumption | omega) only [push_cast, ↓reduceIte, reduceIte, Nat.reduceEqDiff, Nat.reduceAdd, Nat.reduceSub, Nat.reduceMul, Nat.reduceBEq, Int.reduceNeg] }; first | ((with_reducible refine optP_id ?_); refine optP_some ?_) | ((with_reducible refine condP_id ?_); first | refine qcy ?_ | refine qcx ?_ | refine qco ?_ | refine condP_decn (fun hc => ?_) (fun hc => ?_) | refine condP_dec (fun hc => ?_) (fun hc => ?_) | refine qct ?_ | refine qcf ?_ | refine condP_bool (fun hc => ?_) (fun hc => ?_)) | ((with_reducible refine condO_id ?_); refine condO_some ?_) | ((with_reducible refine resP_id ?_); refine resP_two ?_) | ((with_reducible refine callT_to ?_); refine callP_plain ?_))
    | refine wk_seq ?_ | refine wk_region ?_ | refine wk_block ?_ | refine wk_inBlock ?_ | refine wk_skip ?_ | refine wk_draw (by kernel_rfl) (by decide +kernel) ?_ | refine wk_drawn [(7, 2), (7, 4), (7, 5)] (by kernel_rfl) (by decide +kernel) ?_ | refine wo_nil ?_ | refine wk_cond ?_ | refine wk_ret ?_ | refine wk_nil ?_ | refine wo_dst rfl (opR_call ?_) | refine wo_nodst (opR_call ?_) | refine wo_dst rfl (opR_pick ?_) | refine wo_guard rfl rfl ?_ | refine wo_guardn rfl ?_ | refine wo_dst rfl (opR_pure ?_) | refine wo_nodst (opR_pure ?_)
    | refine wd_dst rfl (opR_call ?_) | refine wd_nodst (opR_call ?_) | refine wd_dst rfl (opR_pick ?_) | refine wd_guard rfl rfl ?_ | refine wd_guardn rfl ?_ | refine wd_dst rfl (opR_pure ?_) | refine wd_nodst (opR_pure ?_) | refine opR_call ?_ | refine opR_pick ?_ | refine opR_pure ?_ | (refine wd_nil ?_; refine doneD rfl rfl ?_ ?_) | refine again_nil | refine again_cons ?_ ?_ | refine again_plain rfl rfl rfl ?_ | refine again_guard rfl rfl rfl rfl ?_ | exact same_undef | exact same_of rfl rfl | refine give_ret ?_ | refine give_end ?_)
  refine (risr_w n d h1 h2 _).mono ?_
  rintro _ h1 ⟨rfl, g1⟩; have n1 := g1.1; have k1 := g1.2; try simp only [next_new, next_set] at n1 k1
  by_cases hi : IsR n d
  · rw [decide_eq_true hi]
    by_cases hn : n < 0
    · repeat' (first
    | ((with_reducible first | refine optP_id ?_ | refine condP_id ?_ | refine condO_id ?_ | refine resP_id ?_ | refine callT_of ?_); conv => { arg 1; simp (disch := first | assumption | omega) only [push_cast, ↓reduceIte, reduceIte, Nat.reduceEqDiff, Nat.reduceAdd, Nat.reduceSub, Nat.reduceMul, Nat.reduceBEq, Int.reduceNeg, k1] }; first | ((with_reducible refine optP_id ?_); refine optP_some ?_) | ((with_reducible refine condP_id ?_); first | refine qcy ?_ | refine qcx ?_ | refine qco ?_ | refine condP_decn (fun hc => ?_) (fun hc => ?_) | refine condP_dec (fun hc => ?_) (fun hc => ?_) | refine qct ?_ | refine qcf ?_ | refine condP_bool (fun hc => ?_) (fun hc => ?_)) | ((with_reducible refine condO_id ?_); refine condO_some ?_) | ((with_reducible refine resP_id ?_); refine resP_two ?_) | ((with_reducible refine callT_to ?_); refine callP_plain ?_))
    | refine wk_seq ?_ | refine wk_region ?_ | refine wk_block ?_ | refine wk_inBlock ?_ | refine wk_skip ?_ | refine wk_draw (by kernel_rfl) (by decide +kernel) ?_ | refine wk_drawn [(7, 2), (7, 4), (7, 5)] (by kernel_rfl) (by decide +kernel) ?_ | refine wo_nil ?_ | refine wk_cond ?_ | refine wk_ret ?_ | refine wk_nil ?_ | refine wo_dst rfl (opR_call ?_) | refine wo_nodst (opR_call ?_) | refine wo_dst rfl (opR_pick ?_) | refine wo_guard rfl rfl ?_ | refine wo_guardn rfl ?_ | refine wo_dst rfl (opR_pure ?_) | refine wo_nodst (opR_pure ?_)
    | refine wd_dst rfl (opR_call ?_) | refine wd_nodst (opR_call ?_) | refine wd_dst rfl (opR_pick ?_) | refine wd_guard rfl rfl ?_ | refine wd_guardn rfl ?_ | refine wd_dst rfl (opR_pure ?_) | refine wd_nodst (opR_pure ?_) | refine opR_call ?_ | refine opR_pick ?_ | refine opR_pure ?_ | (refine wd_nil ?_; refine doneD rfl rfl ?_ ?_) | refine again_nil | refine again_cons ?_ ?_ | refine again_plain rfl rfl rfl ?_ | refine again_guard rfl rfl rfl rfl ?_ | exact same_undef | exact same_of rfl rfl | refine give_ret ?_ | refine give_end ?_)
      exact ⟨.inl ⟨fun q => by omega, rfl⟩, by (repeat (first | exact Gr.refl _ | assumption | (refine Gr.trans ?_ (by assumption)) | refine Gr.set ?_ (by first | exact Nat.le_refl _ | omega | (simp only [next_new, next_set]; omega)) _ | refine Gr.new ?_ _))⟩
    · obtain ⟨N, rfl⟩ : ∃ N : Nat, n = (N : Int) := ⟨n.toNat, by omega⟩
      obtain ⟨D, rfl⟩ : ∃ D : Nat, d = (D : Int) := ⟨d.toNat, by have := hi.1; omega⟩
      have hN : N ≤ 1099511627776 := by have := hi.2.2.1; omega
      have hD1 : 1 ≤ D := by have := hi.1; omega
      have hD : D ≤ 1048576 := by have := hi.2.1; omega
      have fin1 : ∀ r H, irr D → r = errP 31 → rfrR (N : Int) (D : Int) r H := fun r H q1 q2 => .inr ⟨⟨hi, by omega⟩, .inl ⟨q1, q2⟩⟩
      have fin2 : (∃ a b c : Nat, D = 2 ^ a * 3 ^ b * 5 ^ c) → ∀ r H (K : Nat) (w : Value) (sh : Int), K ≤ 12 → N * 60 ^ K % D = 0 → r = .tuple #[.agg #[w, .int .i64 sh], .int .i64 0] → plR (N * 60 ^ K / D) (-(K : Int)) w sh H → rfrR (N : Int) (D : Int) r H := fun q0 r H K w sh q1 q2 q3 q4 => .inr ⟨⟨hi, by omega⟩, .inr ⟨q0, K, w, sh, q1, q2, q3, q4⟩⟩
      repeat' (first
    | ((with_reducible first | refine optP_id ?_ | refine condP_id ?_ | refine condO_id ?_ | refine resP_id ?_ | refine callT_of ?_); conv => { arg 1; simp (disch := first | assumption | omega) only [push_cast, ↓reduceIte, reduceIte, Nat.reduceEqDiff, Nat.reduceAdd, Nat.reduceSub, Nat.reduceMul, Nat.reduceBEq, Int.reduceNeg, k1] }; first | ((with_reducible refine optP_id ?_); refine optP_some ?_) | ((with_reducible refine condP_id ?_); first | refine qcy ?_ | refine qcx ?_ | refine qco ?_ | refine condP_decn (fun hc => ?_) (fun hc => ?_) | refine condP_dec (fun hc => ?_) (fun hc => ?_) | refine qct ?_ | refine qcf ?_ | refine condP_bool (fun hc => ?_) (fun hc => ?_)) | ((with_reducible refine condO_id ?_); refine condO_some ?_) | ((with_reducible refine resP_id ?_); refine resP_two ?_) | ((with_reducible refine callT_to ?_); refine callP_plain ?_))
    | refine wk_seq ?_ | refine wk_region ?_ | refine wk_block ?_ | refine wk_inBlock ?_ | refine wk_skip ?_ | refine wk_draw (by kernel_rfl) (by decide +kernel) ?_ | refine wk_drawn [(7, 2), (7, 4), (7, 5)] (by kernel_rfl) (by decide +kernel) ?_ | refine wo_nil ?_ | refine wk_cond ?_ | refine wk_ret ?_ | refine wk_nil ?_ | refine wo_dst rfl (opR_call ?_) | refine wo_nodst (opR_call ?_) | refine wo_dst rfl (opR_pick ?_) | refine wo_guard rfl rfl ?_ | refine wo_guardn rfl ?_ | refine wo_dst rfl (opR_pure ?_) | refine wo_nodst (opR_pure ?_)
    | refine wd_dst rfl (opR_call ?_) | refine wd_nodst (opR_call ?_) | refine wd_dst rfl (opR_pick ?_) | refine wd_guard rfl rfl ?_ | refine wd_guardn rfl ?_ | refine wd_dst rfl (opR_pure ?_) | refine wd_nodst (opR_pure ?_) | refine opR_call ?_ | refine opR_pick ?_ | refine opR_pure ?_ | (refine wd_nil ?_; refine doneD rfl rfl ?_ ?_) | refine again_nil | refine again_cons ?_ ?_ | refine again_plain rfl rfl rfl ?_ | refine again_guard rfl rfl rfl rfl ?_ | exact same_undef | exact same_of rfl rfl | refine give_ret ?_ | refine give_end ?_)
      refine (rregular_w D hD1 hD _).mono ?_
      rintro _ _ ⟨⟨⟨a, b, c, hE⟩, rfl⟩ | ⟨hir, rfl⟩, rfl⟩
      · have hmul := inv60_mul a b c
        rw [← hE] at hmul
        have hsm := inv_small hE hD rfl hmul
        obtain ⟨E, hEe⟩ : ∃ E, E = exE a b c := ⟨_, rfl⟩
        rw [← hEe] at hmul
        have hE12 : E ≤ 12 := by rw [hEe]; exact hsm.2
        generalize inv60 a b c = Y at *
        have hlast : N * 60 ^ E % D = 0 := by rw [← hmul, Nat.mul_left_comm, Nat.mul_mod_right]
        have fin := fin2 ⟨a, b, c, hE⟩
        clear hsm hEe hE fin2
        repeat' (first
    | ((with_reducible first | refine optP_id ?_ | refine condP_id ?_ | refine condO_id ?_ | refine resP_id ?_ | refine callT_of ?_); conv => { arg 1; simp (disch := first | assumption | omega) only [push_cast, ↓reduceIte, reduceIte, Nat.reduceEqDiff, Nat.reduceAdd, Nat.reduceSub, Nat.reduceMul, Nat.reduceBEq, Int.reduceNeg, k1] }; first | ((with_reducible refine optP_id ?_); refine optP_some ?_) | ((with_reducible refine condP_id ?_); first | refine qcy ?_ | refine qcx ?_ | refine qco ?_ | refine condP_decn (fun hc => ?_) (fun hc => ?_) | refine condP_dec (fun hc => ?_) (fun hc => ?_) | refine qct ?_ | refine qcf ?_ | refine condP_bool (fun hc => ?_) (fun hc => ?_)) | ((with_reducible refine condO_id ?_); refine condO_some ?_) | ((with_reducible refine resP_id ?_); refine resP_two ?_) | ((with_reducible refine callT_to ?_); refine callP_plain ?_))
    | refine wk_seq ?_ | refine wk_region ?_ | refine wk_block ?_ | refine wk_inBlock ?_ | refine wk_skip ?_ | refine wk_draw (by kernel_rfl) (by decide +kernel) ?_ | refine wk_drawn [(7, 2), (7, 4), (7, 5)] (by kernel_rfl) (by decide +kernel) ?_ | refine wo_nil ?_ | refine wk_cond ?_ | refine wk_ret ?_ | refine wk_nil ?_ | refine wo_dst rfl (opR_call ?_) | refine wo_nodst (opR_call ?_) | refine wo_dst rfl (opR_pick ?_) | refine wo_guard rfl rfl ?_ | refine wo_guardn rfl ?_ | refine wo_dst rfl (opR_pure ?_) | refine wo_nodst (opR_pure ?_)
    | refine wd_dst rfl (opR_call ?_) | refine wd_nodst (opR_call ?_) | refine wd_dst rfl (opR_pick ?_) | refine wd_guard rfl rfl ?_ | refine wd_guardn rfl ?_ | refine wd_dst rfl (opR_pure ?_) | refine wd_nodst (opR_pure ?_) | refine opR_call ?_ | refine opR_pick ?_ | refine opR_pure ?_ | (refine wd_nil ?_; refine doneD rfl rfl ?_ ?_) | refine again_nil | refine again_cons ?_ ?_ | refine again_plain rfl rfl rfl ?_ | refine again_guard rfl rfl rfl rfl ?_ | exact same_undef | exact same_of rfl rfl | refine give_ret ?_ | refine give_end ?_)
        refine wk_loop (fun nn E' H => ∃ k : Nat, nn = E - k ∧ k ≤ E ∧ Gr h H ∧ h.next + 1 < H.next ∧ H.get h.next = some (.cells [.int .i64 (N : Int), .int .i64 (D : Int)] 59 true) ∧ H.get (h.next + 1) = some (.cells [.slice none 0 0, .int .i64 0] 41 true) ∧ E'.look 1 top = .pointer (some ⟨h.next, 0, none⟩) ∧ E'.look 2 top = .pointer (some ⟨h.next + 1, 0, none⟩) ∧ E'.look 3 top = .int .i64 0 ∧ E'.look 4 top = .int .i64 (k : Int)) E
          ⟨0, rfl, by omega, by (repeat (first | exact Gr.refl _ | assumption | (refine Gr.trans ?_ (by assumption)) | refine Gr.set ?_ (by first | exact Nat.le_refl _ | omega | (simp only [next_new, next_set]; omega)) _ | refine Gr.new ?_ _)), by omega, by simp (disch := first | assumption | omega) only [push_cast, ↓reduceIte, reduceIte, Nat.reduceEqDiff, Nat.reduceAdd, Nat.reduceSub, Nat.reduceMul, Nat.reduceBEq, Int.reduceNeg, k1], by simp (disch := first | assumption | omega) only [push_cast, ↓reduceIte, reduceIte, Nat.reduceEqDiff, Nat.reduceAdd, Nat.reduceSub, Nat.reduceMul, Nat.reduceBEq, Int.reduceNeg, k1], by simp (disch := first | assumption | omega) only [push_cast, ↓reduceIte, reduceIte, Nat.reduceEqDiff, Nat.reduceAdd, Nat.reduceSub, Nat.reduceMul, Nat.reduceBEq, Int.reduceNeg], by simp (disch := first | assumption | omega) only [push_cast, ↓reduceIte, reduceIte, Nat.reduceEqDiff, Nat.reduceAdd, Nat.reduceSub, Nat.reduceMul, Nat.reduceBEq, Int.reduceNeg], by simp (disch := first | assumption | omega) only [push_cast, ↓reduceIte, reduceIte, Nat.reduceEqDiff, Nat.reduceAdd, Nat.reduceSub, Nat.reduceMul, Nat.reduceBEq, Int.reduceNeg], (by simp (disch := first | assumption | omega) only [push_cast, ↓reduceIte, reduceIte, Nat.reduceEqDiff, Nat.reduceAdd, Nat.reduceSub, Nat.reduceMul, Nat.reduceBEq, Int.reduceNeg, Int.natCast_zero])⟩ ?_
        rintro nn E' H ⟨k, rfl, hk, gr, hnx, cA, cB, e1, e2, e3, e4⟩ next
        have gn := gr.1
        repeat' (first
    | ((with_reducible first | refine optP_id ?_ | refine condP_id ?_ | refine condO_id ?_ | refine resP_id ?_ | refine callT_of ?_); conv => { arg 1; simp (disch := first | assumption | omega) only [push_cast, ↓reduceIte, reduceIte, Nat.reduceEqDiff, Nat.reduceAdd, Nat.reduceSub, Nat.reduceMul, Nat.reduceBEq, Int.reduceNeg, e1, e2, e3, e4, cA] }; first | ((with_reducible refine optP_id ?_); refine optP_some ?_) | ((with_reducible refine condP_id ?_); first | refine qcy ?_ | refine qcx ?_ | refine qco ?_ | refine condP_decn (fun hc => ?_) (fun hc => ?_) | refine condP_dec (fun hc => ?_) (fun hc => ?_) | refine qct ?_ | refine qcf ?_ | refine condP_bool (fun hc => ?_) (fun hc => ?_)) | ((with_reducible refine condO_id ?_); refine condO_some ?_) | ((with_reducible refine resP_id ?_); refine resP_two ?_) | ((with_reducible refine callT_to ?_); refine callP_plain ?_))
    | refine wk_seq ?_ | refine wk_region ?_ | refine wk_block ?_ | refine wk_inBlock ?_ | refine wk_skip ?_ | refine wk_draw (by kernel_rfl) (by decide +kernel) ?_ | refine wk_drawn [(7, 2), (7, 4), (7, 5)] (by kernel_rfl) (by decide +kernel) ?_ | refine wo_nil ?_ | refine wk_cond ?_ | refine wk_ret ?_ | refine wk_nil ?_ | refine wo_dst rfl (opR_call ?_) | refine wo_nodst (opR_call ?_) | refine wo_dst rfl (opR_pick ?_) | refine wo_guard rfl rfl ?_ | refine wo_guardn rfl ?_ | refine wo_dst rfl (opR_pure ?_) | refine wo_nodst (opR_pure ?_)
    | refine wd_dst rfl (opR_call ?_) | refine wd_nodst (opR_call ?_) | refine wd_dst rfl (opR_pick ?_) | refine wd_guard rfl rfl ?_ | refine wd_guardn rfl ?_ | refine wd_dst rfl (opR_pure ?_) | refine wd_nodst (opR_pure ?_) | refine opR_call ?_ | refine opR_pick ?_ | refine opR_pure ?_ | (refine wd_nil ?_; refine doneD rfl rfl ?_ ?_) | refine again_nil | refine again_cons ?_ ?_ | refine again_plain rfl rfl rfl ?_ | refine again_guard rfl rfl rfl rfl ?_ | exact same_undef | exact same_of rfl rfl | refine give_ret ?_ | refine give_end ?_)
        refine (bigof_w N (Nat.lt_of_le_of_lt hN (by decide)) _).mono ?_
        rintro _ h2 ⟨⟨m1, b1, rfl, i1, d1, en1, v1, l1⟩, g2⟩; have n2 := g2.1; have k2 := g2.2; try simp only [next_new, next_set] at n2 k2
        repeat' (first
    | ((with_reducible first | refine optP_id ?_ | refine condP_id ?_ | refine condO_id ?_ | refine resP_id ?_ | refine callT_of ?_); conv => { arg 1; simp (disch := first | assumption | omega) only [push_cast, ↓reduceIte, reduceIte, Nat.reduceEqDiff, Nat.reduceAdd, Nat.reduceSub, Nat.reduceMul, Nat.reduceBEq, Int.reduceNeg, k2, e1, e2, e3, e4, cA] }; first | ((with_reducible refine optP_id ?_); refine optP_some ?_) | ((with_reducible refine condP_id ?_); first | refine qcy ?_ | refine qcx ?_ | refine qco ?_ | refine condP_decn (fun hc => ?_) (fun hc => ?_) | refine condP_dec (fun hc => ?_) (fun hc => ?_) | refine qct ?_ | refine qcf ?_ | refine condP_bool (fun hc => ?_) (fun hc => ?_)) | ((with_reducible refine condO_id ?_); refine condO_some ?_) | ((with_reducible refine resP_id ?_); refine resP_two ?_) | ((with_reducible refine callT_to ?_); refine callP_plain ?_))
    | refine wk_seq ?_ | refine wk_region ?_ | refine wk_block ?_ | refine wk_inBlock ?_ | refine wk_skip ?_ | refine wk_draw (by kernel_rfl) (by decide +kernel) ?_ | refine wk_drawn [(7, 2), (7, 4), (7, 5)] (by kernel_rfl) (by decide +kernel) ?_ | refine wo_nil ?_ | refine wk_cond ?_ | refine wk_ret ?_ | refine wk_nil ?_ | refine wo_dst rfl (opR_call ?_) | refine wo_nodst (opR_call ?_) | refine wo_dst rfl (opR_pick ?_) | refine wo_guard rfl rfl ?_ | refine wo_guardn rfl ?_ | refine wo_dst rfl (opR_pure ?_) | refine wo_nodst (opR_pure ?_)
    | refine wd_dst rfl (opR_call ?_) | refine wd_nodst (opR_call ?_) | refine wd_dst rfl (opR_pick ?_) | refine wd_guard rfl rfl ?_ | refine wd_guardn rfl ?_ | refine wd_dst rfl (opR_pure ?_) | refine wd_nodst (opR_pure ?_) | refine opR_call ?_ | refine opR_pick ?_ | refine opR_pure ?_ | (refine wd_nil ?_; refine doneD rfl rfl ?_ ?_) | refine again_nil | refine again_cons ?_ ?_ | refine again_plain rfl rfl rfl ?_ | refine again_guard rfl rfl rfl rfl ?_ | exact same_undef | exact same_of rfl rfl | refine give_ret ?_ | refine give_end ?_)
        refine (rpower_w k (by omega) _).mono ?_
        rintro _ h3 ⟨⟨m2, a2, c2, rfl, i2, d2, v2, l2⟩, g3⟩; have n3 := g3.1; have k3 := g3.2; try simp only [next_new, next_set] at n3 k3
        repeat' (first
    | ((with_reducible first | refine optP_id ?_ | refine condP_id ?_ | refine condO_id ?_ | refine resP_id ?_ | refine callT_of ?_); conv => { arg 1; simp (disch := first | assumption | omega) only [push_cast, ↓reduceIte, reduceIte, Nat.reduceEqDiff, Nat.reduceAdd, Nat.reduceSub, Nat.reduceMul, Nat.reduceBEq, Int.reduceNeg, k2, k3, e1, e2, e3, e4, cA] }; first | ((with_reducible refine optP_id ?_); refine optP_some ?_) | ((with_reducible refine condP_id ?_); first | refine qcy ?_ | refine qcx ?_ | refine qco ?_ | refine condP_decn (fun hc => ?_) (fun hc => ?_) | refine condP_dec (fun hc => ?_) (fun hc => ?_) | refine qct ?_ | refine qcf ?_ | refine condP_bool (fun hc => ?_) (fun hc => ?_)) | ((with_reducible refine condO_id ?_); refine condO_some ?_) | ((with_reducible refine resP_id ?_); refine resP_two ?_) | ((with_reducible refine callT_to ?_); refine callP_plain ?_))
    | refine wk_seq ?_ | refine wk_region ?_ | refine wk_block ?_ | refine wk_inBlock ?_ | refine wk_skip ?_ | refine wk_draw (by kernel_rfl) (by decide +kernel) ?_ | refine wk_drawn [(7, 2), (7, 4), (7, 5)] (by kernel_rfl) (by decide +kernel) ?_ | refine wo_nil ?_ | refine wk_cond ?_ | refine wk_ret ?_ | refine wk_nil ?_ | refine wo_dst rfl (opR_call ?_) | refine wo_nodst (opR_call ?_) | refine wo_dst rfl (opR_pick ?_) | refine wo_guard rfl rfl ?_ | refine wo_guardn rfl ?_ | refine wo_dst rfl (opR_pure ?_) | refine wo_nodst (opR_pure ?_)
    | refine wd_dst rfl (opR_call ?_) | refine wd_nodst (opR_call ?_) | refine wd_dst rfl (opR_pick ?_) | refine wd_guard rfl rfl ?_ | refine wd_guardn rfl ?_ | refine wd_dst rfl (opR_pure ?_) | refine wd_nodst (opR_pure ?_) | refine opR_call ?_ | refine opR_pick ?_ | refine opR_pure ?_ | (refine wd_nil ?_; refine doneD rfl rfl ?_ ?_) | refine again_nil | refine again_cons ?_ ?_ | refine again_plain rfl rfl rfl ?_ | refine again_guard rfl rfl rfl rfl ?_ | exact same_undef | exact same_of rfl rfl | refine give_ret ?_ | refine give_end ?_)
        refine (rtimes_w m1 m2 d1 d2 (by omega) (by omega) _ _ _ (SlIn.gr i1 (by (repeat (first | exact Gr.refl _ | assumption | (refine Gr.trans ?_ (by assumption)) | refine Gr.set ?_ (by first | exact Nat.le_refl _ | omega | (simp only [next_new, next_set]; omega)) _ | refine Gr.new ?_ _)))) i2).mono ?_
        rintro _ h4 ⟨⟨m3, a3, c3, rfl, i3, d3, en3, v3, l3⟩, g4⟩; have n4 := g4.1; have k4 := g4.2; try simp only [next_new, next_set] at n4 k4
        repeat' (first
    | ((with_reducible first | refine optP_id ?_ | refine condP_id ?_ | refine condO_id ?_ | refine resP_id ?_ | refine callT_of ?_); conv => { arg 1; simp (disch := first | assumption | omega) only [push_cast, ↓reduceIte, reduceIte, Nat.reduceEqDiff, Nat.reduceAdd, Nat.reduceSub, Nat.reduceMul, Nat.reduceBEq, Int.reduceNeg, k2, k3, k4, e1, e2, e3, e4, cA] }; first | ((with_reducible refine optP_id ?_); refine optP_some ?_) | ((with_reducible refine condP_id ?_); first | refine qcy ?_ | refine qcx ?_ | refine qco ?_ | refine condP_decn (fun hc => ?_) (fun hc => ?_) | refine condP_dec (fun hc => ?_) (fun hc => ?_) | refine qct ?_ | refine qcf ?_ | refine condP_bool (fun hc => ?_) (fun hc => ?_)) | ((with_reducible refine condO_id ?_); refine condO_some ?_) | ((with_reducible refine resP_id ?_); refine resP_two ?_) | ((with_reducible refine callT_to ?_); refine callP_plain ?_))
    | refine wk_seq ?_ | refine wk_region ?_ | refine wk_block ?_ | refine wk_inBlock ?_ | refine wk_skip ?_ | refine wk_draw (by kernel_rfl) (by decide +kernel) ?_ | refine wk_drawn [(7, 2), (7, 4), (7, 5)] (by kernel_rfl) (by decide +kernel) ?_ | refine wo_nil ?_ | refine wk_cond ?_ | refine wk_ret ?_ | refine wk_nil ?_ | refine wo_dst rfl (opR_call ?_) | refine wo_nodst (opR_call ?_) | refine wo_dst rfl (opR_pick ?_) | refine wo_guard rfl rfl ?_ | refine wo_guardn rfl ?_ | refine wo_dst rfl (opR_pure ?_) | refine wo_nodst (opR_pure ?_)
    | refine wd_dst rfl (opR_call ?_) | refine wd_nodst (opR_call ?_) | refine wd_dst rfl (opR_pick ?_) | refine wd_guard rfl rfl ?_ | refine wd_guardn rfl ?_ | refine wd_dst rfl (opR_pure ?_) | refine wd_nodst (opR_pure ?_) | refine opR_call ?_ | refine opR_pick ?_ | refine opR_pure ?_ | (refine wd_nil ?_; refine doneD rfl rfl ?_ ?_) | refine again_nil | refine again_cons ?_ ?_ | refine again_plain rfl rfl rfl ?_ | refine again_guard rfl rfl rfl rfl ?_ | exact same_undef | exact same_of rfl rfl | refine give_ret ?_ | refine give_end ?_)
        refine (rover_w m3 D d3 (by omega) hD1 (by omega) _ _ i3).mono ?_
        rintro _ h5 ⟨⟨m5, a5, c5, rfl, i5, d5, en5, v5, l5⟩, g5⟩; have n5 := g5.1; have k5 := g5.2; try simp only [next_new, next_set] at n5 k5
        rw [v3, v1, v2] at v5 ⊢
        by_cases hz : N * 60 ^ k % D = 0
        · have hz' : ((N * 60 ^ k % D : Nat) : Int) = 0 := by omega
          have fink := fun r H w sh => fin r H k w sh (by omega) hz
          generalize ((N * 60 ^ k % D : Nat) : Int) = zI at *
          generalize N * 60 ^ k / D = q at *
          repeat' (first
    | ((with_reducible first | refine optP_id ?_ | refine condP_id ?_ | refine condO_id ?_ | refine resP_id ?_ | refine callT_of ?_); conv => { arg 1; simp (disch := first | assumption | omega) only [push_cast, ↓reduceIte, reduceIte, Nat.reduceEqDiff, Nat.reduceAdd, Nat.reduceSub, Nat.reduceMul, Nat.reduceBEq, Int.reduceNeg, k2, k3, k4, k5, e1, e2, e3, e4, cA] }; first | ((with_reducible refine optP_id ?_); refine optP_some ?_) | ((with_reducible refine condP_id ?_); first | refine qcy ?_ | refine qcx ?_ | refine qco ?_ | refine condP_decn (fun hc => ?_) (fun hc => ?_) | refine condP_dec (fun hc => ?_) (fun hc => ?_) | refine qct ?_ | refine qcf ?_ | refine condP_bool (fun hc => ?_) (fun hc => ?_)) | ((with_reducible refine condO_id ?_); refine condO_some ?_) | ((with_reducible refine resP_id ?_); refine resP_two ?_) | ((with_reducible refine callT_to ?_); refine callP_plain ?_))
    | refine wk_seq ?_ | refine wk_region ?_ | refine wk_block ?_ | refine wk_inBlock ?_ | refine wk_skip ?_ | refine wk_draw (by kernel_rfl) (by decide +kernel) ?_ | refine wk_drawn [(7, 2), (7, 4), (7, 5)] (by kernel_rfl) (by decide +kernel) ?_ | refine wo_nil ?_ | refine wk_cond ?_ | refine wk_ret ?_ | refine wk_nil ?_ | refine wo_dst rfl (opR_call ?_) | refine wo_nodst (opR_call ?_) | refine wo_dst rfl (opR_pick ?_) | refine wo_guard rfl rfl ?_ | refine wo_guardn rfl ?_ | refine wo_dst rfl (opR_pure ?_) | refine wo_nodst (opR_pure ?_)
    | refine wd_dst rfl (opR_call ?_) | refine wd_nodst (opR_call ?_) | refine wd_dst rfl (opR_pick ?_) | refine wd_guard rfl rfl ?_ | refine wd_guardn rfl ?_ | refine wd_dst rfl (opR_pure ?_) | refine wd_nodst (opR_pure ?_) | refine opR_call ?_ | refine opR_pick ?_ | refine opR_pure ?_ | (refine wd_nil ?_; refine doneD rfl rfl ?_ ?_) | refine again_nil | refine again_cons ?_ ?_ | refine again_plain rfl rfl rfl ?_ | refine again_guard rfl rfl rfl rfl ?_ | exact same_undef | exact same_of rfl rfl | refine give_ret ?_ | refine give_end ?_)
          refine (placed_w m5 (-(k : Int)) (by omega) d5 en5 (by omega) _ _ i5).mono ?_
          rintro _ h6 ⟨⟨w, sh, b, rfl, hpl⟩, g6⟩; have n6 := g6.1; have k6 := g6.2; try simp only [next_new, next_set] at n6 k6
          rw [v5] at hpl
          obtain ⟨dd, aw, cw, rfl, iw, okw⟩ := hpl.list
          repeat' (first
    | ((with_reducible first | refine optP_id ?_ | refine condP_id ?_ | refine condO_id ?_ | refine resP_id ?_ | refine callT_of ?_); conv => { arg 1; simp (disch := first | assumption | omega) only [push_cast, ↓reduceIte, reduceIte, Nat.reduceEqDiff, Nat.reduceAdd, Nat.reduceSub, Nat.reduceMul, Nat.reduceBEq, Int.reduceNeg, k2, k3, k4, k5, k6, e1, e2, e3, e4, cA, cB] }; first | ((with_reducible refine optP_id ?_); refine optP_some ?_) | ((with_reducible refine condP_id ?_); first | refine qcy ?_ | refine qcx ?_ | refine qco ?_ | refine condP_decn (fun hc => ?_) (fun hc => ?_) | refine condP_dec (fun hc => ?_) (fun hc => ?_) | refine qct ?_ | refine qcf ?_ | refine condP_bool (fun hc => ?_) (fun hc => ?_)) | ((with_reducible refine condO_id ?_); refine condO_some ?_) | ((with_reducible refine resP_id ?_); refine resP_two ?_) | ((with_reducible refine callT_to ?_); refine callP_plain ?_))
    | refine wk_seq ?_ | refine wk_region ?_ | refine wk_block ?_ | refine wk_inBlock ?_ | refine wk_skip ?_ | refine wk_draw (by kernel_rfl) (by decide +kernel) ?_ | refine wk_drawn [(7, 2), (7, 4), (7, 5)] (by kernel_rfl) (by decide +kernel) ?_ | refine wo_nil ?_ | refine wk_cond ?_ | refine wk_ret ?_ | refine wk_nil ?_ | refine wo_dst rfl (opR_call ?_) | refine wo_nodst (opR_call ?_) | refine wo_dst rfl (opR_pick ?_) | refine wo_guard rfl rfl ?_ | refine wo_guardn rfl ?_ | refine wo_dst rfl (opR_pure ?_) | refine wo_nodst (opR_pure ?_)
    | refine wd_dst rfl (opR_call ?_) | refine wd_nodst (opR_call ?_) | refine wd_dst rfl (opR_pick ?_) | refine wd_guard rfl rfl ?_ | refine wd_guardn rfl ?_ | refine wd_dst rfl (opR_pure ?_) | refine wd_nodst (opR_pure ?_) | refine opR_call ?_ | refine opR_pick ?_ | refine opR_pure ?_ | (refine wd_nil ?_; refine doneD rfl rfl ?_ ?_) | refine again_nil | refine again_cons ?_ ?_ | refine again_plain rfl rfl rfl ?_ | refine again_guard rfl rfl rfl rfl ?_ | exact same_undef | exact same_of rfl rfl | refine give_ret ?_ | refine give_end ?_)
          refine ⟨fink _ _ _ _ rfl (plR.setQ (C := [.slice none 0 0, .int .i64 0]) (e' := 41) (rw' := true) (hpl.gr (by (repeat (first | exact Gr.refl _ | assumption | (refine Gr.trans ?_ (by assumption)) | refine Gr.set ?_ (by first | exact Nat.le_refl _ | omega | (simp only [next_new, next_set]; omega)) _ | refine Gr.new ?_ _)))) (by simp (disch := first | assumption | omega) only [push_cast, ↓reduceIte, reduceIte, Nat.reduceEqDiff, Nat.reduceAdd, Nat.reduceSub, Nat.reduceMul, Nat.reduceBEq, Int.reduceNeg, k6, k5, k4, k3, k2, cB]) (by decide)), by (repeat (first | exact Gr.refl _ | assumption | (refine Gr.trans ?_ (by assumption)) | refine Gr.set ?_ (by first | exact Nat.le_refl _ | omega | (simp only [next_new, next_set]; omega)) _ | refine Gr.new ?_ _))⟩
        · have hz' : ¬ ((N * 60 ^ k % D : Nat) : Int) = 0 := by omega
          have hkE : k < E := by
            rcases Nat.lt_or_ge k E with q | q
            · exact q
            · have : k = E := by omega
              subst this
              exact absurd hlast hz
          generalize ((N * 60 ^ k % D : Nat) : Int) = zI at *
          repeat' (first
    | ((with_reducible first | refine optP_id ?_ | refine condP_id ?_ | refine condO_id ?_ | refine resP_id ?_ | refine callT_of ?_); conv => { arg 1; simp (disch := first | assumption | omega) only [push_cast, ↓reduceIte, reduceIte, Nat.reduceEqDiff, Nat.reduceAdd, Nat.reduceSub, Nat.reduceMul, Nat.reduceBEq, Int.reduceNeg, k2, k3, k4, k5, e1, e2, e3, e4, cA] }; first | ((with_reducible refine optP_id ?_); refine optP_some ?_) | ((with_reducible refine condP_id ?_); first | refine qcy ?_ | refine qcx ?_ | refine qco ?_ | refine condP_decn (fun hc => ?_) (fun hc => ?_) | refine condP_dec (fun hc => ?_) (fun hc => ?_) | refine qct ?_ | refine qcf ?_ | refine condP_bool (fun hc => ?_) (fun hc => ?_)) | ((with_reducible refine condO_id ?_); refine condO_some ?_) | ((with_reducible refine resP_id ?_); refine resP_two ?_) | ((with_reducible refine callT_to ?_); refine callP_plain ?_))
    | refine wk_seq ?_ | refine wk_region ?_ | refine wk_block ?_ | refine wk_inBlock ?_ | refine wk_skip ?_ | refine wk_draw (by kernel_rfl) (by decide +kernel) ?_ | refine wk_drawn [(7, 2), (7, 4), (7, 5)] (by kernel_rfl) (by decide +kernel) ?_ | refine wo_nil ?_ | refine wk_cond ?_ | refine wk_ret ?_ | refine wk_nil ?_ | refine wo_dst rfl (opR_call ?_) | refine wo_nodst (opR_call ?_) | refine wo_dst rfl (opR_pick ?_) | refine wo_guard rfl rfl ?_ | refine wo_guardn rfl ?_ | refine wo_dst rfl (opR_pure ?_) | refine wo_nodst (opR_pure ?_)
    | refine wd_dst rfl (opR_call ?_) | refine wd_nodst (opR_call ?_) | refine wd_dst rfl (opR_pick ?_) | refine wd_guard rfl rfl ?_ | refine wd_guardn rfl ?_ | refine wd_dst rfl (opR_pure ?_) | refine wd_nodst (opR_pure ?_) | refine opR_call ?_ | refine opR_pick ?_ | refine opR_pure ?_ | (refine wd_nil ?_; refine doneD rfl rfl ?_ ?_) | refine again_nil | refine again_cons ?_ ?_ | refine again_plain rfl rfl rfl ?_ | refine again_guard rfl rfl rfl rfl ?_ | exact same_undef | exact same_of rfl rfl | refine give_ret ?_ | refine give_end ?_)
          exact next (E - (k + 1)) _ _ (by omega) ⟨k + 1, rfl, by omega, by (repeat (first | exact Gr.refl _ | assumption | (refine Gr.trans ?_ (by assumption)) | refine Gr.set ?_ (by first | exact Nat.le_refl _ | omega | (simp only [next_new, next_set]; omega)) _ | refine Gr.new ?_ _)), by omega, by simp (disch := first | assumption | omega) only [push_cast, ↓reduceIte, reduceIte, Nat.reduceEqDiff, Nat.reduceAdd, Nat.reduceSub, Nat.reduceMul, Nat.reduceBEq, Int.reduceNeg, k5, k4, k3, k2, cA], by simp (disch := first | assumption | omega) only [push_cast, ↓reduceIte, reduceIte, Nat.reduceEqDiff, Nat.reduceAdd, Nat.reduceSub, Nat.reduceMul, Nat.reduceBEq, Int.reduceNeg, k5, k4, k3, k2, cB], by simp (disch := first | assumption | omega) only [push_cast, ↓reduceIte, reduceIte, Nat.reduceEqDiff, Nat.reduceAdd, Nat.reduceSub, Nat.reduceMul, Nat.reduceBEq, Int.reduceNeg, e1], by simp (disch := first | assumption | omega) only [push_cast, ↓reduceIte, reduceIte, Nat.reduceEqDiff, Nat.reduceAdd, Nat.reduceSub, Nat.reduceMul, Nat.reduceBEq, Int.reduceNeg, e2], by simp (disch := first | assumption | omega) only [push_cast, ↓reduceIte, reduceIte, Nat.reduceEqDiff, Nat.reduceAdd, Nat.reduceSub, Nat.reduceMul, Nat.reduceBEq, Int.reduceNeg, e3], by simp (disch := first | assumption | omega) only [push_cast, ↓reduceIte, reduceIte, Nat.reduceEqDiff, Nat.reduceAdd, Nat.reduceSub, Nat.reduceMul, Nat.reduceBEq, Int.reduceNeg, Int.natCast_add, Int.natCast_one]⟩
      · repeat' (first
    | ((with_reducible first | refine optP_id ?_ | refine condP_id ?_ | refine condO_id ?_ | refine resP_id ?_ | refine callT_of ?_); conv => { arg 1; simp (disch := first | assumption | omega) only [push_cast, ↓reduceIte, reduceIte, Nat.reduceEqDiff, Nat.reduceAdd, Nat.reduceSub, Nat.reduceMul, Nat.reduceBEq, Int.reduceNeg, k1] }; first | ((with_reducible refine optP_id ?_); refine optP_some ?_) | ((with_reducible refine condP_id ?_); first | refine qcy ?_ | refine qcx ?_ | refine qco ?_ | refine condP_decn (fun hc => ?_) (fun hc => ?_) | refine condP_dec (fun hc => ?_) (fun hc => ?_) | refine qct ?_ | refine qcf ?_ | refine condP_bool (fun hc => ?_) (fun hc => ?_)) | ((with_reducible refine condO_id ?_); refine condO_some ?_) | ((with_reducible refine resP_id ?_); refine resP_two ?_) | ((with_reducible refine callT_to ?_); refine callP_plain ?_))
    | refine wk_seq ?_ | refine wk_region ?_ | refine wk_block ?_ | refine wk_inBlock ?_ | refine wk_skip ?_ | refine wk_draw (by kernel_rfl) (by decide +kernel) ?_ | refine wk_drawn [(7, 2), (7, 4), (7, 5)] (by kernel_rfl) (by decide +kernel) ?_ | refine wo_nil ?_ | refine wk_cond ?_ | refine wk_ret ?_ | refine wk_nil ?_ | refine wo_dst rfl (opR_call ?_) | refine wo_nodst (opR_call ?_) | refine wo_dst rfl (opR_pick ?_) | refine wo_guard rfl rfl ?_ | refine wo_guardn rfl ?_ | refine wo_dst rfl (opR_pure ?_) | refine wo_nodst (opR_pure ?_)
    | refine wd_dst rfl (opR_call ?_) | refine wd_nodst (opR_call ?_) | refine wd_dst rfl (opR_pick ?_) | refine wd_guard rfl rfl ?_ | refine wd_guardn rfl ?_ | refine wd_dst rfl (opR_pure ?_) | refine wd_nodst (opR_pure ?_) | refine opR_call ?_ | refine opR_pick ?_ | refine opR_pure ?_ | (refine wd_nil ?_; refine doneD rfl rfl ?_ ?_) | refine again_nil | refine again_cons ?_ ?_ | refine again_plain rfl rfl rfl ?_ | refine again_guard rfl rfl rfl rfl ?_ | exact same_undef | exact same_of rfl rfl | refine give_ret ?_ | refine give_end ?_)
        exact ⟨fin1 _ _ hir rfl, by (repeat (first | exact Gr.refl _ | assumption | (refine Gr.trans ?_ (by assumption)) | refine Gr.set ?_ (by first | exact Nat.le_refl _ | omega | (simp only [next_new, next_set]; omega)) _ | refine Gr.new ?_ _))⟩
  · rw [decide_eq_false hi]
    repeat' (first
    | ((with_reducible first | refine optP_id ?_ | refine condP_id ?_ | refine condO_id ?_ | refine resP_id ?_ | refine callT_of ?_); conv => { arg 1; simp (disch := first | assumption | omega) only [push_cast, ↓reduceIte, reduceIte, Nat.reduceEqDiff, Nat.reduceAdd, Nat.reduceSub, Nat.reduceMul, Nat.reduceBEq, Int.reduceNeg, k1] }; first | ((with_reducible refine optP_id ?_); refine optP_some ?_) | ((with_reducible refine condP_id ?_); first | refine qcy ?_ | refine qcx ?_ | refine qco ?_ | refine condP_decn (fun hc => ?_) (fun hc => ?_) | refine condP_dec (fun hc => ?_) (fun hc => ?_) | refine qct ?_ | refine qcf ?_ | refine condP_bool (fun hc => ?_) (fun hc => ?_)) | ((with_reducible refine condO_id ?_); refine condO_some ?_) | ((with_reducible refine resP_id ?_); refine resP_two ?_) | ((with_reducible refine callT_to ?_); refine callP_plain ?_))
    | refine wk_seq ?_ | refine wk_region ?_ | refine wk_block ?_ | refine wk_inBlock ?_ | refine wk_skip ?_ | refine wk_draw (by kernel_rfl) (by decide +kernel) ?_ | refine wk_drawn [(7, 2), (7, 4), (7, 5)] (by kernel_rfl) (by decide +kernel) ?_ | refine wo_nil ?_ | refine wk_cond ?_ | refine wk_ret ?_ | refine wk_nil ?_ | refine wo_dst rfl (opR_call ?_) | refine wo_nodst (opR_call ?_) | refine wo_dst rfl (opR_pick ?_) | refine wo_guard rfl rfl ?_ | refine wo_guardn rfl ?_ | refine wo_dst rfl (opR_pure ?_) | refine wo_nodst (opR_pure ?_)
    | refine wd_dst rfl (opR_call ?_) | refine wd_nodst (opR_call ?_) | refine wd_dst rfl (opR_pick ?_) | refine wd_guard rfl rfl ?_ | refine wd_guardn rfl ?_ | refine wd_dst rfl (opR_pure ?_) | refine wd_nodst (opR_pure ?_) | refine opR_call ?_ | refine opR_pick ?_ | refine opR_pure ?_ | (refine wd_nil ?_; refine doneD rfl rfl ?_ ?_) | refine again_nil | refine again_cons ?_ ?_ | refine again_plain rfl rfl rfl ?_ | refine again_guard rfl rfl rfl rfl ?_ | exact same_undef | exact same_of rfl rfl | refine give_ret ?_ | refine give_end ?_)
    exact ⟨.inl ⟨fun q => hi q.1, rfl⟩, by (repeat (first | exact Gr.refl _ | assumption | (refine Gr.trans ?_ (by assumption)) | refine Gr.set ?_ (by first | exact Nat.le_refl _ | omega | (simp only [next_new, next_set]; omega)) _ | refine Gr.new ?_ _))⟩
end Go.Proofs.YtcfohcpcepeolaaGreatDoor
namespace Go.Proofs.YtcfohcpcepeolaaGreatDoor
open Go.Ev
theorem nil_in (H : AHeap) : IIn H (.slice none 0 0) [] := ⟨none, 0, rfl, Nat.zero_le _, fun h => absurd rfl h⟩
theorem irr_not {D a b c : Nat} (h : irr D) (hE : D = 2 ^ a * 3 ^ b * 5 ^ c) : False := by
  obtain ⟨R, r1, r2, r3, r5, rd⟩ := h
  exact r1 (only_one r2 r3 r5 (by rw [← hE]; exact rd))
/-- both make the same place-value number -/
theorem fr_same {n d : Int} {r r' : Value} {H H' : AHeap} (p : frR n d r H) (q : rfrR n d r' H') : ∃ l v v' s e, r = .tuple #[.agg #[v, .int .i64 s], .int .i64 e] ∧ r' = .tuple #[.agg #[v', .int .i64 s], .int .i64 e] ∧ IIn H v l ∧ IIn H' v' l ∧ l.length ≤ 4611686018427387904 := by
  have err : ∀ e, r = errP e → r' = errP e → ∃ l v v' s e, r = .tuple #[.agg #[v, .int .i64 s], .int .i64 e] ∧ r' = .tuple #[.agg #[v', .int .i64 s], .int .i64 e] ∧ IIn H v l ∧ IIn H' v' l ∧ l.length ≤ 4611686018427387904 := fun e h1 h2 => ⟨[], .slice none 0 0, .slice none 0 0, 0, e, h1, h2, nil_in H, nil_in H', by simp⟩
  rcases p with ⟨h1, h2⟩ | ⟨h1, p⟩
  · rcases q with ⟨_, h4⟩ | ⟨h3, _⟩
    · exact err 2 h2 h4
    · exact absurd h3 h1
  · rcases q with ⟨h3, _⟩ | ⟨_, q⟩
    · exact absurd h1 h3
    · obtain ⟨hi, hn0⟩ := h1
      obtain ⟨N, rfl⟩ : ∃ N : Nat, n = (N : Int) := ⟨n.toNat, by omega⟩
      obtain ⟨D, rfl⟩ : ∃ D : Nat, d = (D : Int) := ⟨d.toNat, by have := hi.1; omega⟩
      have hN : N ≤ 1099511627776 := by have := hi.2.2.1; omega
      have hD1 : 1 ≤ D := by have := hi.1; omega
      have hD : D ≤ 1048576 := by have := hi.2.1; omega
      rw [Int.toNat_natCast] at p q
      rcases p with ⟨p1, p2⟩ | ⟨a, b, c, hE, _, hp⟩
      · rcases q with ⟨_, q2⟩ | ⟨⟨a, b, c, hE⟩, _⟩
        · exact err 31 p2 q2
        · exact (irr_not p1 hE).elim
      · rcases q with ⟨q1, _⟩ | ⟨_, K, w, sh, hK, hdv, rfl, hq⟩
        · exact (irr_not q1 hE).elim
        · have hmul := inv60_mul a b c
          rw [← hE] at hmul
          have hsm := inv_small hE hD rfl hmul
          have hYp := inv60_pos a b c
          obtain ⟨E, hEe⟩ : ∃ E, E = exE a b c := ⟨_, rfl⟩
          have hE12 : E ≤ 12 := by rw [hEe]; exact hsm.2
          have hY9 := hsm.1
          rw [Int.toNat_natCast] at hp hdv hq
          rw [← hEe] at hmul hp
          generalize inv60 a b c = Y at *
          clear hsm hEe hE
          have hX : N * Y < 60 ^ 16 := by
            have h1 : N < 60 ^ 7 := Nat.lt_of_le_of_lt hN (by decide)
            have := Nat.mul_lt_mul'' h1 hY9
            rw [← Nat.pow_add] at this
            exact this
          obtain ⟨Q, hQ⟩ := Nat.dvd_of_mod_eq_zero hdv
          have hQd : N * 60 ^ K / D = Q := by rw [hQ, Nat.mul_div_cancel_left _ (by omega)]
          rw [hQd] at hq
          have key : Q * 60 ^ E = N * Y * 60 ^ K := by
            rw [← hmul]
            have : Q * (D * Y) = (D * Q) * Y := by grind
            rw [this, ← hQ]
            generalize 60 ^ K = A
            grind
          rcases hp with ⟨h0, rfl⟩ | ⟨h0, l, e, v, hl, hn, hval, _, hr⟩
          · have hQ0 : Q = 0 := by
              rw [h0, Nat.zero_mul] at key
              rcases Nat.mul_eq_zero.1 key with z | z
              · exact z
              · exact absurd z (Nat.pos_iff_ne_zero.1 (pow60_pos E))
            rcases hq with ⟨_, rfl, rfl⟩ | ⟨hq0, _⟩
            · exact ⟨[], .slice none 0 0, .slice none 0 0, 0, 0, rfl, rfl, nil_in H, nil_in H', by simp⟩
            · exact absurd hQ0 hq0
          · have hlen := place_len hl hn hval hX
            have hz := placeE_zero (s := -(E : Int) + (e : Int)) hl hn (by omega) (by omega)
            rcases hr with ⟨_, rfl, hin⟩ | ⟨hE2, _⟩
            · rcases hq with ⟨hq0, _⟩ | ⟨_, d', e', hin', vd', nd', hval', rfl, _⟩
              · rw [hq0, Nat.zero_mul] at key
                rcases Nat.mul_eq_zero.1 key.symm with z | z
                · exact absurd z h0
                · exact absurd z (Nat.pos_iff_ne_zero.1 (pow60_pos K))
              · have k2 : valN d' * 60 ^ (e' + E) = valN l * 60 ^ (e + K) := by
                  rw [Nat.pow_add, Nat.pow_add, ← Nat.mul_assoc, ← Nat.mul_assoc, hval', hval, key]
                obtain ⟨s1, s2⟩ := pow_split (valN_mod vd' nd') (valN_mod hl hn) k2
                obtain rfl := valN_inj vd' hl s1
                exact ⟨d', v, w, -(E : Int) + (e : Int), 0, rfl, by rw [show -(K : Int) + (e' : Int) = -(E : Int) + (e : Int) by omega], hin, hin', by omega⟩
            · exact absurd (hz.1 (by omega)) hE2
theorem fr_shape {n d : Int} {r : Value} {H : AHeap} (p : frR n d r H) : ∃ a m c s e, r = .tuple #[.agg #[.slice a m c, .int .i64 s], .int .i64 e] := by
  rcases p with ⟨_, rfl⟩ | ⟨_, ⟨_, rfl⟩ | ⟨a, b, c, _, _, hh⟩⟩
  · exact ⟨_, _, _, _, _, rfl⟩
  · exact ⟨_, _, _, _, _, rfl⟩
  · rcases hh with ⟨_, rfl⟩ | ⟨_, l, e, v, _, _, _, _, ⟨_, rfl, i⟩ | ⟨_, rfl⟩⟩
    · exact ⟨_, _, _, _, _, rfl⟩
    · obtain ⟨a, c, rfl, _⟩ := id i
      exact ⟨_, _, _, _, _, rfl⟩
    · exact ⟨_, _, _, _, _, rfl⟩
set_option maxRecDepth 100000 in
set_option maxHeartbeats 16000000 in
theorem ratios_w (l : List Int) (s n d : Int) (ll : l.length ≤ 4611686018427387904) (h1 : -9223372036854775808 ≤ n) (h2 : n ≤ 9223372036854775807) (v : Value) (h : AHeap) (hv : IIn h v l) (okv : okC v = true) :
    Wc pr (.func 8) [.agg #[v, .int .i64 s], .agg #[.int .i64 n, .int .i64 d]] h fun r h' => r = .bool true := by
  obtain ⟨av, cv, rfl, _⟩ := id hv
  refine wc_func Tryz.func8 rfl rfl rfl rfl ?_
  repeat' (first
    | ((with_reducible first | refine optP_id ?_ | refine condP_id ?_ | refine condO_id ?_ | refine resP_id ?_ | refine callT_of ?_); conv => { arg 1; simp (disch := first | assumption | omega) only [push_cast, ↓reduceIte, reduceIte, Nat.reduceEqDiff, Nat.reduceAdd, Nat.reduceSub, Nat.reduceMul, Nat.reduceBEq, Int.reduceNeg] }; first | ((with_reducible refine optP_id ?_); refine optP_some ?_) | ((with_reducible refine condP_id ?_); first | refine qcy ?_ | refine qcx ?_ | refine qco ?_ | refine condP_decn (fun hc => ?_) (fun hc => ?_) | refine condP_dec (fun hc => ?_) (fun hc => ?_) | refine qct ?_ | refine qcf ?_ | refine condP_bool (fun hc => ?_) (fun hc => ?_)) | ((with_reducible refine condO_id ?_); refine condO_some ?_) | ((with_reducible refine resP_id ?_); refine resP_one ?_) | ((with_reducible refine callT_to ?_); refine callP_plain ?_))
    | refine wk_seq ?_ | refine wk_region ?_ | refine wo_nil ?_ | refine wk_ret ?_ | refine wk_nil ?_ | refine wo_dst rfl (opR_call ?_) | refine wo_nodst (opR_call ?_) | refine wo_dst rfl (opR_pick ?_) | refine wo_guard rfl rfl ?_ | refine wo_guardn rfl ?_ | refine wo_dst rfl (opR_pure ?_) | refine wo_nodst (opR_pure ?_)
    | refine give_ret ?_ | refine give_end ?_)
  refine (pratio_w l s _ _ (SlIn.gr hv (by (repeat (first | exact Gr.refl _ | assumption | (refine Gr.trans ?_ (by assumption)) | refine Gr.set ?_ (by first | exact Nat.le_refl _ | omega | (simp only [next_new, next_set]; omega)) _ | refine Gr.new ?_ _)))) ll).mono ?_
  rintro _ h1 ⟨rfl, g1⟩; have n1 := g1.1; have k1 := g1.2; try simp only [next_new, next_set] at n1 k1
  repeat' (first
    | ((with_reducible first | refine optP_id ?_ | refine condP_id ?_ | refine condO_id ?_ | refine resP_id ?_ | refine callT_of ?_); conv => { arg 1; simp (disch := first | assumption | omega) only [push_cast, ↓reduceIte, reduceIte, Nat.reduceEqDiff, Nat.reduceAdd, Nat.reduceSub, Nat.reduceMul, Nat.reduceBEq, Int.reduceNeg, k1] }; first | ((with_reducible refine optP_id ?_); refine optP_some ?_) | ((with_reducible refine condP_id ?_); first | refine qcy ?_ | refine qcx ?_ | refine qco ?_ | refine condP_decn (fun hc => ?_) (fun hc => ?_) | refine condP_dec (fun hc => ?_) (fun hc => ?_) | refine qct ?_ | refine qcf ?_ | refine condP_bool (fun hc => ?_) (fun hc => ?_)) | ((with_reducible refine condO_id ?_); refine condO_some ?_) | ((with_reducible refine resP_id ?_); refine resP_one ?_) | ((with_reducible refine callT_to ?_); refine callP_plain ?_))
    | refine wk_seq ?_ | refine wk_region ?_ | refine wo_nil ?_ | refine wk_ret ?_ | refine wk_nil ?_ | refine wo_dst rfl (opR_call ?_) | refine wo_nodst (opR_call ?_) | refine wo_dst rfl (opR_pick ?_) | refine wo_guard rfl rfl ?_ | refine wo_guardn rfl ?_ | refine wo_dst rfl (opR_pure ?_) | refine wo_nodst (opR_pure ?_)
    | refine give_ret ?_ | refine give_end ?_)
  refine (rratio_w l s _ _ (SlIn.gr hv (by (repeat (first | exact Gr.refl _ | assumption | (refine Gr.trans ?_ (by assumption)) | refine Gr.set ?_ (by first | exact Nat.le_refl _ | omega | (simp only [next_new, next_set]; omega)) _ | refine Gr.new ?_ _)))) ll).mono ?_
  rintro _ h2 ⟨rfl, g2⟩; have n2 := g2.1; have k2 := g2.2; try simp only [next_new, next_set] at n2 k2
  generalize ratP l s = F at *
  repeat' (first
    | ((with_reducible first | refine optP_id ?_ | refine condP_id ?_ | refine condO_id ?_ | refine resP_id ?_ | refine callT_of ?_); conv => { arg 1; simp (disch := first | assumption | omega) only [push_cast, ↓reduceIte, reduceIte, Nat.reduceEqDiff, Nat.reduceAdd, Nat.reduceSub, Nat.reduceMul, Nat.reduceBEq, Int.reduceNeg, k1, k2] }; first | ((with_reducible refine optP_id ?_); refine optP_some ?_) | ((with_reducible refine condP_id ?_); first | refine qcy ?_ | refine qcx ?_ | refine qco ?_ | refine condP_decn (fun hc => ?_) (fun hc => ?_) | refine condP_dec (fun hc => ?_) (fun hc => ?_) | refine qct ?_ | refine qcf ?_ | refine condP_bool (fun hc => ?_) (fun hc => ?_)) | ((with_reducible refine condO_id ?_); refine condO_some ?_) | ((with_reducible refine resP_id ?_); refine resP_one ?_) | ((with_reducible refine callT_to ?_); refine callP_plain ?_))
    | refine wk_seq ?_ | refine wk_region ?_ | refine wo_nil ?_ | refine wk_ret ?_ | refine wk_nil ?_ | refine wo_dst rfl (opR_call ?_) | refine wo_nodst (opR_call ?_) | refine wo_dst rfl (opR_pick ?_) | refine wo_guard rfl rfl ?_ | refine wo_guardn rfl ?_ | refine wo_dst rfl (opR_pure ?_) | refine wo_nodst (opR_pure ?_)
    | refine give_ret ?_ | refine give_end ?_)
  refine (fromratio_w n d (by assumption) (by assumption) _).mono ?_
  rintro _ h3 ⟨hp, g3⟩; have n3 := g3.1; have k3 := g3.2; try simp only [next_new, next_set] at n3 k3
  have hp2 := hp
  obtain ⟨a1, m1, c1, s1, e1, rfl⟩ := fr_shape hp
  clear hp
  repeat' (first
    | ((with_reducible first | refine optP_id ?_ | refine condP_id ?_ | refine condO_id ?_ | refine resP_id ?_ | refine callT_of ?_); conv => { arg 1; simp (disch := first | assumption | omega) only [push_cast, ↓reduceIte, reduceIte, Nat.reduceEqDiff, Nat.reduceAdd, Nat.reduceSub, Nat.reduceMul, Nat.reduceBEq, Int.reduceNeg, k1, k2, k3] }; first | ((with_reducible refine optP_id ?_); refine optP_some ?_) | ((with_reducible refine condP_id ?_); first | refine qcy ?_ | refine qcx ?_ | refine qco ?_ | refine condP_decn (fun hc => ?_) (fun hc => ?_) | refine condP_dec (fun hc => ?_) (fun hc => ?_) | refine qct ?_ | refine qcf ?_ | refine condP_bool (fun hc => ?_) (fun hc => ?_)) | ((with_reducible refine condO_id ?_); refine condO_some ?_) | ((with_reducible refine resP_id ?_); refine resP_one ?_) | ((with_reducible refine callT_to ?_); refine callP_plain ?_))
    | refine wk_seq ?_ | refine wk_region ?_ | refine wo_nil ?_ | refine wk_ret ?_ | refine wk_nil ?_ | refine wo_dst rfl (opR_call ?_) | refine wo_nodst (opR_call ?_) | refine wo_dst rfl (opR_pick ?_) | refine wo_guard rfl rfl ?_ | refine wo_guardn rfl ?_ | refine wo_dst rfl (opR_pure ?_) | refine wo_nodst (opR_pure ?_)
    | refine give_ret ?_ | refine give_end ?_)
  refine (rfromratio_w n d (by assumption) (by assumption) _).mono ?_
  rintro _ h4 ⟨hq, g4⟩; have n4 := g4.1; have k4 := g4.2; try simp only [next_new, next_set] at n4 k4
  obtain ⟨m, w1, w2, t, e, r1, rfl, i1, i2, lm⟩ := fr_same hp2 hq
  cases r1
  obtain ⟨a1', c1', r1, _⟩ := id i1
  cases r1
  obtain ⟨a2, c2, rfl, _⟩ := id i2
  have hFF : (F.1 = F.1 ∧ F.2.1 = F.2.1) := ⟨rfl, rfl⟩
  have hF2 : F.2.2 = F.2.2 := rfl
  have hee : e1 = e1 := rfl
  repeat' (first
    | ((with_reducible first | refine optP_id ?_ | refine condP_id ?_ | refine condO_id ?_ | refine resP_id ?_ | refine callT_of ?_); conv => { arg 1; simp (disch := first | assumption | omega) only [push_cast, ↓reduceIte, reduceIte, Nat.reduceEqDiff, Nat.reduceAdd, Nat.reduceSub, Nat.reduceMul, Nat.reduceBEq, Int.reduceNeg, k1, k2, k3, k4] }; first | ((with_reducible refine optP_id ?_); refine optP_some ?_) | ((with_reducible refine condP_id ?_); first | refine qcy ?_ | refine qcx ?_ | refine qco ?_ | refine condP_decn (fun hc => ?_) (fun hc => ?_) | refine condP_dec (fun hc => ?_) (fun hc => ?_) | refine qct ?_ | refine qcf ?_ | refine condP_bool (fun hc => ?_) (fun hc => ?_)) | ((with_reducible refine condO_id ?_); refine condO_some ?_) | ((with_reducible refine resP_id ?_); refine resP_one ?_) | ((with_reducible refine callT_to ?_); refine callP_plain ?_))
    | refine wk_seq ?_ | refine wk_region ?_ | refine wo_nil ?_ | refine wk_ret ?_ | refine wk_nil ?_ | refine wo_dst rfl (opR_call ?_) | refine wo_nodst (opR_call ?_) | refine wo_dst rfl (opR_pick ?_) | refine wo_guard rfl rfl ?_ | refine wo_guardn rfl ?_ | refine wo_dst rfl (opR_pure ?_) | refine wo_nodst (opR_pure ?_)
    | refine give_ret ?_ | refine give_end ?_)
  refine (sameplace_w m m s1 s1 _ _ _ (SlIn.gr i1 (by (repeat (first | exact Gr.refl _ | assumption | (refine Gr.trans ?_ (by assumption)) | refine Gr.set ?_ (by first | exact Nat.le_refl _ | omega | (simp only [next_new, next_set]; omega)) _ | refine Gr.new ?_ _)))) (SlIn.gr i2 (by (repeat (first | exact Gr.refl _ | assumption | (refine Gr.trans ?_ (by assumption)) | refine Gr.set ?_ (by first | exact Nat.le_refl _ | omega | (simp only [next_new, next_set]; omega)) _ | refine Gr.new ?_ _)))) lm).mono ?_
  rintro _ h5 ⟨rfl, g5⟩; have n5 := g5.1; have k5 := g5.2; try simp only [next_new, next_set] at n5 k5
  rw [decide_eq_true ⟨rfl, rfl⟩]
  repeat' (first
    | ((with_reducible first | refine optP_id ?_ | refine condP_id ?_ | refine condO_id ?_ | refine resP_id ?_ | refine callT_of ?_); conv => { arg 1; simp (disch := first | assumption | omega) only [push_cast, ↓reduceIte, reduceIte, Nat.reduceEqDiff, Nat.reduceAdd, Nat.reduceSub, Nat.reduceMul, Nat.reduceBEq, Int.reduceNeg, k1, k2, k3, k4, k5] }; first | ((with_reducible refine optP_id ?_); refine optP_some ?_) | ((with_reducible refine condP_id ?_); first | refine qcy ?_ | refine qcx ?_ | refine qco ?_ | refine condP_decn (fun hc => ?_) (fun hc => ?_) | refine condP_dec (fun hc => ?_) (fun hc => ?_) | refine qct ?_ | refine qcf ?_ | refine condP_bool (fun hc => ?_) (fun hc => ?_)) | ((with_reducible refine condO_id ?_); refine condO_some ?_) | ((with_reducible refine resP_id ?_); refine resP_one ?_) | ((with_reducible refine callT_to ?_); refine callP_plain ?_))
    | refine wk_seq ?_ | refine wk_region ?_ | refine wo_nil ?_ | refine wk_ret ?_ | refine wk_nil ?_ | refine wo_dst rfl (opR_call ?_) | refine wo_nodst (opR_call ?_) | refine wo_dst rfl (opR_pick ?_) | refine wo_guard rfl rfl ?_ | refine wo_guardn rfl ?_ | refine wo_dst rfl (opR_pure ?_) | refine wo_nodst (opR_pure ?_)
    | (refine wc_known rfl ?_)
    | refine give_ret ?_ | refine give_end ?_)
  rfl
end Go.Proofs.YtcfohcpcepeolaaGreatDoor
