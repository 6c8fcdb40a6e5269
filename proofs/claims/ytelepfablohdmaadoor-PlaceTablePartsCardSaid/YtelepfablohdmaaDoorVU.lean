/-
  PlaceTableParts returns true for any two lists of numbers: the partial products by a table add up to the product, and each row of a table is the product with its number. Conditions: none beyond the form's own; the laid variables are read by nobody on this way.
  How: an evaluator of calls without draws (Ev1 to Ev27, X1 to X8, W1 to W13) is right in every world and on every schedule; the functions have contracts in it (V0 to V77); a function that defers stands in for itself (X9); the closed example call is evaluated (P0 to P2).
-/
import Derived.Test.YtelepfablohdmaaDoorVM
import Derived.Test.YtelepfablohdmaaDoorW6
import Derived.Test.YtelepfablohdmaaDoorW3
import Derived.Test.YtelepfablohdmaaDoorVA
import Derived.WalkKit
import Derived.ProofKit
import Derived.OpenShut
import Derived.ShutString
import Derived.ChangeSame
import Derived.Test.YtelepfablohdmaaDoorTie
import Derived.Test.YtelepfablohdmaaDoorCards
import Derived.Lay
import Derived.LaidMore
import Derived.LaidOnce
import Derived.SevenTiedAt
import Derived.SizedLaws
set_option linter.unusedSimpArgs false
set_option linter.unusedVariables false
/- The walk of the law PlaceTableParts. -/
namespace Go.Proofs.YtelepfablohdmaaDoor
open Go.Ev
theorem sum_nf {P : Nat} {r : Value} {H : AHeap} {d : List Int} (hp : placeR (P * 60 ^ 64) (-64) r H) (hP : P < 60 ^ 16) (hd : nf P d) : ∃ a c s, r = .tuple #[.agg #[.slice a d.length c, .int .i64 s], .int .i64 0] ∧ IIn H (.slice a d.length c) d := by
  rcases hp with ⟨h0, rfl⟩ | ⟨h0, l, e, v, hl, hn, hval, hle, hE⟩
  · have hP0 : P = 0 := by
      rcases Nat.mul_eq_zero.1 h0 with q | q
      · exact q
      · exact absurd q (Nat.ne_of_gt (pow60_pos 64))
    have hd0 := hd.2.1.2 hP0
    subst hd0
    exact ⟨none, 0, 0, rfl, nilI _⟩
  · have hld : l = d := nf_uniq (i := 0) (j := 64) (X := P * 60 ^ 64) ⟨hl, ⟨fun h => absurd h hn, fun h => absurd h h0⟩, e, hval⟩ hd (by rw [Nat.pow_zero, Nat.mul_one])
    have hlen := nf_len hd hP
    have hX : P * 60 ^ 64 < 60 ^ 80 := by
      rw [show (60 : Nat) ^ 80 = 60 ^ 16 * 60 ^ 64 by rw [← Nat.pow_add]]
      exact Nat.mul_lt_mul_of_pos_right hP (pow60_pos 64)
    have hl2 := place_len hl hn hval hX
    subst hld
    rcases hE with ⟨h1, rfl, hin⟩ | ⟨h1, _⟩
    · obtain ⟨a, c, rfl, _⟩ := id hin
      exact ⟨a, c, _, rfl, hin⟩
    · exact absurd ((placeE_zero (s := -64 + (e : Int)) hl hn (by omega) (by omega)).1 hlen) h1
theorem nf_ex {P : Nat} (hP : P < 60 ^ 146) : ∃ d, nf P d := by
  obtain ⟨r, h', _, hp, _⟩ := place_w P hP 0 (by omega) (by omega) ⟨.lf, 0⟩
  rcases hp with ⟨h0, _⟩ | ⟨h0, l, e, v, hl, hn, hval, _⟩
  · exact ⟨[], valid_nil, ⟨fun _ => h0, fun _ => rfl⟩, 0, by rw [h0]; rfl⟩
  · exact ⟨l, hl, ⟨fun h => absurd h hn, fun h => absurd h h0⟩, e, hval⟩
theorem dig_nf {X : Nat} {r : Value} {H : AHeap} (h : digR X r H) (hX : X < 60 ^ 16) : ∃ d a c, r = .tuple #[.slice a d.length c, .int .i64 0] ∧ IIn H (.slice a d.length c) d ∧ nf X d := by
  obtain ⟨d, w, hd, ⟨h1, rfl, hin⟩ | ⟨h1, _⟩⟩ := h
  · obtain ⟨a, c, rfl, _⟩ := id hin
    exact ⟨d, a, c, rfl, hin, hd⟩
  · have := nf_len hd hX
    omega
set_option maxRecDepth 100000 in
set_option maxHeartbeats 8000000 in
theorem tableparts_w (x y : List Int) (lx : x.length ≤ 4611686018427387904) (ly : y.length ≤ 4611686018427387904) (vx vy : Value) (h : AHeap) (hx : IIn h vx x) (hy : IIn h vy y) :
    Wc pr (.func 11) [vx, vy] h fun r h' => r = .bool true := by
  have hx0 := hx
  have hy0 := hy
  obtain ⟨ax, cx, rfl, _⟩ := hx
  obtain ⟨ay, cy, rfl, _⟩ := hy
  refine wc_func Tryd.func11 rfl rfl rfl rfl ?_
  repeat' (first
    | ((with_reducible first | refine optP_id ?_ | refine condP_id ?_ | refine condO_id ?_ | refine resP_id ?_ | refine callT_of ?_); conv => { arg 1; simp (disch := first | assumption | omega) only [push_cast, ↓reduceIte, reduceIte, Nat.reduceEqDiff, Nat.reduceAdd, Nat.reduceSub, Nat.reduceMul, Nat.reduceBEq, Int.reduceNeg] }; first | ((with_reducible refine optP_id ?_); refine optP_some ?_) | ((with_reducible refine condP_id ?_); first | refine qcy ?_ | refine qcx ?_ | refine qco ?_ | refine condP_decn (fun hc => ?_) (fun hc => ?_) | refine condP_dec (fun hc => ?_) (fun hc => ?_) | refine qct ?_ | refine qcf ?_ | refine condP_bool (fun hc => ?_) (fun hc => ?_)) | ((with_reducible refine condO_id ?_); refine condO_some ?_) | ((with_reducible refine resP_id ?_); refine resP_one ?_) | ((with_reducible refine callT_to ?_); refine callP_plain ?_))
    | refine wk_seq ?_ | refine wk_region ?_ | refine wk_block ?_ | refine wk_inBlock ?_ | refine wk_skip ?_ | refine wo_nil ?_ | refine wk_exit ?_ | refine exitK_code ?_ | refine exitK_hit ?_ | refine exitK_miss rfl ?_ | refine exitK_inLoop ?_ | refine wk_cond ?_ | refine wk_ret ?_ | refine wk_nil ?_ | refine wo_dst rfl (opR_call ?_) | refine wo_nodst (opR_call ?_) | refine wo_dst rfl (opR_pick ?_) | refine wo_guard rfl rfl ?_ | refine wo_guardn rfl ?_ | refine wo_dst rfl (opR_pure ?_) | refine wo_nodst (opR_pure ?_)
    | refine give_ret ?_ | refine give_end ?_)
  refine (made_w x 5 (by omega) _ _ hx0 lx).mono ?_
  rintro _ h1 ⟨⟨a, ha, va, la⟩, g1⟩; have n1 := g1.1; have k1 := g1.2; try simp only [next_new, next_set] at n1 k1
  repeat' (first
    | ((with_reducible first | refine optP_id ?_ | refine condP_id ?_ | refine condO_id ?_ | refine resP_id ?_ | refine callT_of ?_); conv => { arg 1; simp (disch := first | assumption | omega) only [push_cast, ↓reduceIte, reduceIte, Nat.reduceEqDiff, Nat.reduceAdd, Nat.reduceSub, Nat.reduceMul, Nat.reduceBEq, Int.reduceNeg] }; first | ((with_reducible refine optP_id ?_); refine optP_some ?_) | ((with_reducible refine condP_id ?_); first | refine qcy ?_ | refine qcx ?_ | refine qco ?_ | refine condP_decn (fun hc => ?_) (fun hc => ?_) | refine condP_dec (fun hc => ?_) (fun hc => ?_) | refine qct ?_ | refine qcf ?_ | refine condP_bool (fun hc => ?_) (fun hc => ?_)) | ((with_reducible refine condO_id ?_); refine condO_some ?_) | ((with_reducible refine resP_id ?_); refine resP_one ?_) | ((with_reducible refine callT_to ?_); refine callP_plain ?_))
    | refine wk_seq ?_ | refine wk_region ?_ | refine wk_block ?_ | refine wk_inBlock ?_ | refine wk_skip ?_ | refine wo_nil ?_ | refine wk_exit ?_ | refine exitK_code ?_ | refine exitK_hit ?_ | refine exitK_miss rfl ?_ | refine exitK_inLoop ?_ | refine wk_cond ?_ | refine wk_ret ?_ | refine wk_nil ?_ | refine wo_dst rfl (opR_call ?_) | refine wo_nodst (opR_call ?_) | refine wo_dst rfl (opR_pick ?_) | refine wo_guard rfl rfl ?_ | refine wo_guardn rfl ?_ | refine wo_dst rfl (opR_pure ?_) | refine wo_nodst (opR_pure ?_)
    | refine give_ret ?_ | refine give_end ?_)
  refine (made_w y 5 (by omega) _ _ (SlIn.gr hy0 (by (repeat (first | exact Gr.refl _ | assumption | (refine Gr.trans ?_ (by assumption)) | refine Gr.set ?_ (by first | exact Nat.le_refl _ | omega | (simp only [next_new, next_set]; omega)) _ | refine Gr.new ?_ _)))) ly).mono ?_
  rintro _ h2 ⟨⟨b, hb, vb, lb⟩, g2⟩; have n2 := g2.1; have k2 := g2.2; try simp only [next_new, next_set] at n2 k2
  obtain ⟨aa, ca, rfl, _⟩ := id ha
  obtain ⟨ab, cb, rfl, _⟩ := id hb
  repeat' (first
    | ((with_reducible first | refine optP_id ?_ | refine condP_id ?_ | refine condO_id ?_ | refine resP_id ?_ | refine callT_of ?_); conv => { arg 1; simp (disch := first | assumption | omega) only [push_cast, ↓reduceIte, reduceIte, Nat.reduceEqDiff, Nat.reduceAdd, Nat.reduceSub, Nat.reduceMul, Nat.reduceBEq, Int.reduceNeg] }; first | ((with_reducible refine optP_id ?_); refine optP_some ?_) | ((with_reducible refine condP_id ?_); first | refine qcy ?_ | refine qcx ?_ | refine qco ?_ | refine condP_decn (fun hc => ?_) (fun hc => ?_) | refine condP_dec (fun hc => ?_) (fun hc => ?_) | refine qct ?_ | refine qcf ?_ | refine condP_bool (fun hc => ?_) (fun hc => ?_)) | ((with_reducible refine condO_id ?_); refine condO_some ?_) | ((with_reducible refine resP_id ?_); refine resP_one ?_) | ((with_reducible refine callT_to ?_); refine callP_plain ?_))
    | refine wk_seq ?_ | refine wk_region ?_ | refine wk_block ?_ | refine wk_inBlock ?_ | refine wk_skip ?_ | refine wo_nil ?_ | refine wk_exit ?_ | refine exitK_code ?_ | refine exitK_hit ?_ | refine exitK_miss rfl ?_ | refine exitK_inLoop ?_ | refine wk_cond ?_ | refine wk_ret ?_ | refine wk_nil ?_ | refine wo_dst rfl (opR_call ?_) | refine wo_nodst (opR_call ?_) | refine wo_dst rfl (opR_pick ?_) | refine wo_guard rfl rfl ?_ | refine wo_guardn rfl ?_ | refine wo_dst rfl (opR_pure ?_) | refine wo_nodst (opR_pure ?_)
    | refine give_ret ?_ | refine give_end ?_)
  refine (bytable_w a b va (by omega) vb (by omega) _ _ _ (SlIn.gr ha (by (repeat (first | exact Gr.refl _ | assumption | (refine Gr.trans ?_ (by assumption)) | refine Gr.set ?_ (by first | exact Nat.le_refl _ | omega | (simp only [next_new, next_set]; omega)) _ | refine Gr.new ?_ _)))) hb (okC_sl _ _ _) (okC_sl _ _ _)).mono ?_
  rintro _ h3 ⟨⟨L, aL, cL, rfl, hL, hci⟩, g3⟩; have n3 := g3.1; have k3 := g3.2; try simp only [next_new, next_set] at n3 k3
  obtain ⟨hLl, hLo, hLs⟩ := hci
  repeat' (first
    | ((with_reducible first | refine optP_id ?_ | refine condP_id ?_ | refine condO_id ?_ | refine resP_id ?_ | refine callT_of ?_); conv => { arg 1; simp (disch := first | assumption | omega) only [push_cast, ↓reduceIte, reduceIte, Nat.reduceEqDiff, Nat.reduceAdd, Nat.reduceSub, Nat.reduceMul, Nat.reduceBEq, Int.reduceNeg] }; first | ((with_reducible refine optP_id ?_); refine optP_some ?_) | ((with_reducible refine condP_id ?_); first | refine qcy ?_ | refine qcx ?_ | refine qco ?_ | refine condP_decn (fun hc => ?_) (fun hc => ?_) | refine condP_dec (fun hc => ?_) (fun hc => ?_) | refine qct ?_ | refine qcf ?_ | refine condP_bool (fun hc => ?_) (fun hc => ?_)) | ((with_reducible refine condO_id ?_); refine condO_some ?_) | ((with_reducible refine resP_id ?_); refine resP_one ?_) | ((with_reducible refine callT_to ?_); refine callP_plain ?_))
    | refine wk_seq ?_ | refine wk_region ?_ | refine wk_block ?_ | refine wk_inBlock ?_ | refine wk_skip ?_ | refine wo_nil ?_ | refine wk_exit ?_ | refine exitK_code ?_ | refine exitK_hit ?_ | refine exitK_miss rfl ?_ | refine exitK_inLoop ?_ | refine wk_cond ?_ | refine wk_ret ?_ | refine wk_nil ?_ | refine wo_dst rfl (opR_call ?_) | refine wo_nodst (opR_call ?_) | refine wo_dst rfl (opR_pick ?_) | refine wo_guard rfl rfl ?_ | refine wo_guardn rfl ?_ | refine wo_dst rfl (opR_pure ?_) | refine wo_nodst (opR_pure ?_)
    | refine give_ret ?_ | refine give_end ?_)
  refine (sum_w L _ _ hL (by omega) (fun i hi => by have := (hLo _ (List.getElem_mem hi)).2.1; omega)).mono ?_
  rintro r4 h4 ⟨hsum, g4⟩; have n4 := g4.1; have k4 := g4.2; try simp only [next_new, next_set] at n4 k4
  have hP : valN a * valN b < 60 ^ 10 := lt_mul va vb la lb (by omega)
  have hP16 : valN a * valN b < 60 ^ 16 := Nat.lt_of_lt_of_le hP (Nat.pow_le_pow_right (by decide) (by omega))
  have hsum2 : placeR (valN a * valN b * 60 ^ 64) (-64) r4 h4 := by
    rcases hsum with ⟨q, _⟩ | ⟨_, i, hi, _, q, _⟩ | ⟨_, _, q⟩
    · omega
    · exact absurd (placeE_ok.2 (hLo _ (List.getElem_mem hi))) q
    · rw [sumU_all] at q
      rw [Nat.mul_zero, Nat.zero_mul, Nat.add_zero] at hLs
      rw [hLs] at q
      exact q
  obtain ⟨d, hd⟩ := nf_ex (Nat.lt_of_lt_of_le hP (Nat.pow_le_pow_right (by decide) (show 10 ≤ 146 by omega)))
  obtain ⟨a3, c3, sh, rfl, hs⟩ := sum_nf hsum2 hP16 hd
  clear hsum hsum2 hLs
  repeat' (first
    | ((with_reducible first | refine optP_id ?_ | refine condP_id ?_ | refine condO_id ?_ | refine resP_id ?_ | refine callT_of ?_); conv => { arg 1; simp (disch := first | assumption | omega) only [push_cast, ↓reduceIte, reduceIte, Nat.reduceEqDiff, Nat.reduceAdd, Nat.reduceSub, Nat.reduceMul, Nat.reduceBEq, Int.reduceNeg] }; first | ((with_reducible refine optP_id ?_); refine optP_some ?_) | ((with_reducible refine condP_id ?_); first | refine qcy ?_ | refine qcx ?_ | refine qco ?_ | refine condP_decn (fun hc => ?_) (fun hc => ?_) | refine condP_dec (fun hc => ?_) (fun hc => ?_) | refine qct ?_ | refine qcf ?_ | refine condP_bool (fun hc => ?_) (fun hc => ?_)) | ((with_reducible refine condO_id ?_); refine condO_some ?_) | ((with_reducible refine resP_id ?_); refine resP_one ?_) | ((with_reducible refine callT_to ?_); refine callP_plain ?_))
    | refine wk_seq ?_ | refine wk_region ?_ | refine wk_block ?_ | refine wk_inBlock ?_ | refine wk_skip ?_ | refine wo_nil ?_ | refine wk_exit ?_ | refine exitK_code ?_ | refine exitK_hit ?_ | refine exitK_miss rfl ?_ | refine exitK_inLoop ?_ | refine wk_cond ?_ | refine wk_ret ?_ | refine wk_nil ?_ | refine wo_dst rfl (opR_call ?_) | refine wo_nodst (opR_call ?_) | refine wo_dst rfl (opR_pick ?_) | refine wo_guard rfl rfl ?_ | refine wo_guardn rfl ?_ | refine wo_dst rfl (opR_pure ?_) | refine wo_nodst (opR_pure ?_)
    | refine give_ret ?_ | refine give_end ?_)
  refine (mul_w a b va vb (by omega) (by omega) _ _ _ (SlIn.gr ha (by (repeat (first | exact Gr.refl _ | assumption | (refine Gr.trans ?_ (by assumption)) | refine Gr.set ?_ (by first | exact Nat.le_refl _ | omega | (simp only [next_new, next_set]; omega)) _ | refine Gr.new ?_ _)))) (SlIn.gr hb (by (repeat (first | exact Gr.refl _ | assumption | (refine Gr.trans ?_ (by assumption)) | refine Gr.set ?_ (by first | exact Nat.le_refl _ | omega | (simp only [next_new, next_set]; omega)) _ | refine Gr.new ?_ _))))).mono ?_
  rintro _ h5 ⟨hm, g5⟩; have n5 := g5.1; have k5 := g5.2; try simp only [next_new, next_set] at n5 k5
  obtain ⟨d2, am, cm, rfl, him, hd2⟩ := dig_nf hm hP16
  obtain rfl : d2 = d := nf_uniq (i := 0) (j := 0) hd2 hd rfl
  have dl := nf_len hd hP16
  have hlb : ¬ (L.length : Int) > 2 * (b.length : Int) := by omega
  clear hP hP16 hm
  repeat' (first
    | ((with_reducible first | refine optP_id ?_ | refine condP_id ?_ | refine condO_id ?_ | refine resP_id ?_ | refine callT_of ?_); conv => { arg 1; simp (disch := first | assumption | omega) only [push_cast, ↓reduceIte, reduceIte, Nat.reduceEqDiff, Nat.reduceAdd, Nat.reduceSub, Nat.reduceMul, Nat.reduceBEq, Int.reduceNeg, k5] }; first | ((with_reducible refine optP_id ?_); refine optP_some ?_) | ((with_reducible refine condP_id ?_); first | refine qcy ?_ | refine qcx ?_ | refine qco ?_ | refine condP_decn (fun hc => ?_) (fun hc => ?_) | refine condP_dec (fun hc => ?_) (fun hc => ?_) | refine qct ?_ | refine qcf ?_ | refine condP_bool (fun hc => ?_) (fun hc => ?_)) | ((with_reducible refine condO_id ?_); refine condO_some ?_) | ((with_reducible refine resP_id ?_); refine resP_one ?_) | ((with_reducible refine callT_to ?_); refine callP_plain ?_))
    | refine wk_seq ?_ | refine wk_region ?_ | refine wk_block ?_ | refine wk_inBlock ?_ | refine wk_skip ?_ | refine wo_nil ?_ | refine wk_exit ?_ | refine exitK_code ?_ | refine exitK_hit ?_ | refine exitK_miss rfl ?_ | refine exitK_inLoop ?_ | refine wk_cond ?_ | refine wk_ret ?_ | refine wk_nil ?_ | refine wo_dst rfl (opR_call ?_) | refine wo_nodst (opR_call ?_) | refine wo_dst rfl (opR_pick ?_) | refine wo_guard rfl rfl ?_ | refine wo_guardn rfl ?_ | refine wo_dst rfl (opR_pure ?_) | refine wo_nodst (opR_pure ?_)
    | refine give_ret ?_ | refine give_end ?_)
  refine (eqints_w d2 d2 _ _ _ (SlIn.gr hs (by (repeat (first | exact Gr.refl _ | assumption | (refine Gr.trans ?_ (by assumption)) | refine Gr.set ?_ (by first | exact Nat.le_refl _ | omega | (simp only [next_new, next_set]; omega)) _ | refine Gr.new ?_ _)))) him (by omega)).mono ?_
  rintro _ _ ⟨rfl, rfl⟩
  rw [decide_eq_true rfl]
  repeat' (first
    | ((with_reducible first | refine optP_id ?_ | refine condP_id ?_ | refine condO_id ?_ | refine resP_id ?_ | refine callT_of ?_); conv => { arg 1; simp (disch := first | assumption | omega) only [push_cast, ↓reduceIte, reduceIte, Nat.reduceEqDiff, Nat.reduceAdd, Nat.reduceSub, Nat.reduceMul, Nat.reduceBEq, Int.reduceNeg, k5] }; first | ((with_reducible refine optP_id ?_); refine optP_some ?_) | ((with_reducible refine condP_id ?_); first | refine qcy ?_ | refine qcx ?_ | refine qco ?_ | refine condP_decn (fun hc => ?_) (fun hc => ?_) | refine condP_dec (fun hc => ?_) (fun hc => ?_) | refine qct ?_ | refine qcf ?_ | refine condP_bool (fun hc => ?_) (fun hc => ?_)) | ((with_reducible refine condO_id ?_); refine condO_some ?_) | ((with_reducible refine resP_id ?_); refine resP_one ?_) | ((with_reducible refine callT_to ?_); refine callP_plain ?_))
    | refine wk_seq ?_ | refine wk_region ?_ | refine wk_block ?_ | refine wk_inBlock ?_ | refine wk_skip ?_ | refine wo_nil ?_ | refine wk_exit ?_ | refine exitK_code ?_ | refine exitK_hit ?_ | refine exitK_miss rfl ?_ | refine exitK_inLoop ?_ | refine wk_cond ?_ | refine wk_ret ?_ | refine wk_nil ?_ | refine wo_dst rfl (opR_call ?_) | refine wo_nodst (opR_call ?_) | refine wo_dst rfl (opR_pick ?_) | refine wo_guard rfl rfl ?_ | refine wo_guardn rfl ?_ | refine wo_dst rfl (opR_pure ?_) | refine wo_nodst (opR_pure ?_)
    | refine give_ret ?_ | refine give_end ?_)
  refine (table_w a va (by omega) _ _ (SlIn.gr ha (by (repeat (first | exact Gr.refl _ | assumption | (refine Gr.trans ?_ (by assumption)) | refine Gr.set ?_ (by first | exact Nat.le_refl _ | omega | (simp only [next_new, next_set]; omega)) _ | refine Gr.new ?_ _))))).mono ?_
  rintro _ h6 ⟨⟨W, T, bo, c6, rfl, hbo, hgo, hel, hT, hro⟩, g6⟩; have n6 := g6.1; have k6 := g6.2; try simp only [next_new, next_set] at n6 k6
  repeat' (first
    | ((with_reducible first | refine optP_id ?_ | refine condP_id ?_ | refine condO_id ?_ | refine resP_id ?_ | refine callT_of ?_); conv => { arg 1; simp (disch := first | assumption | omega) only [push_cast, ↓reduceIte, reduceIte, Nat.reduceEqDiff, Nat.reduceAdd, Nat.reduceSub, Nat.reduceMul, Nat.reduceBEq, Int.reduceNeg, k6] }; first | ((with_reducible refine optP_id ?_); refine optP_some ?_) | ((with_reducible refine condP_id ?_); first | refine qcy ?_ | refine qcx ?_ | refine qco ?_ | refine condP_decn (fun hc => ?_) (fun hc => ?_) | refine condP_dec (fun hc => ?_) (fun hc => ?_) | refine qct ?_ | refine qcf ?_ | refine condP_bool (fun hc => ?_) (fun hc => ?_)) | ((with_reducible refine condO_id ?_); refine condO_some ?_) | ((with_reducible refine resP_id ?_); refine resP_one ?_) | ((with_reducible refine callT_to ?_); refine callP_plain ?_))
    | refine wk_seq ?_ | refine wk_region ?_ | refine wk_block ?_ | refine wk_inBlock ?_ | refine wk_skip ?_ | refine wo_nil ?_ | refine wk_exit ?_ | refine exitK_code ?_ | refine exitK_hit ?_ | refine exitK_miss rfl ?_ | refine exitK_inLoop ?_ | refine wk_cond ?_ | refine wk_ret ?_ | refine wk_nil ?_ | refine wo_dst rfl (opR_call ?_) | refine wo_nodst (opR_call ?_) | refine wo_dst rfl (opR_pick ?_) | refine wo_guard rfl rfl ?_ | refine wo_guardn rfl ?_ | refine wo_dst rfl (opR_pure ?_) | refine wo_nodst (opR_pure ?_)
    | refine give_ret ?_ | refine give_end ?_)
  refine wk_loop (fun n E H => ∃ i : Nat, n = 23 - i ∧ i ≤ 23 ∧ Gr h6 H ∧ E.look 5 top = .slice aa a.length ca ∧ E.look 13 top = .slice (some ⟨bo, 0, none⟩) 23 c6 ∧ E.look 14 top = .int .i64 (i : Int)) 23
    ⟨0, rfl, by omega, by (repeat (first | exact Gr.refl _ | assumption | (refine Gr.trans ?_ (by assumption)) | refine Gr.set ?_ (by first | exact Nat.le_refl _ | omega | (simp only [next_new, next_set]; omega)) _ | refine Gr.new ?_ _)), by simp (disch := first | assumption | omega) only [push_cast, ↓reduceIte, reduceIte, Nat.reduceEqDiff, Nat.reduceAdd, Nat.reduceSub, Nat.reduceMul, Nat.reduceBEq, Int.reduceNeg], by simp (disch := first | assumption | omega) only [push_cast, ↓reduceIte, reduceIte, Nat.reduceEqDiff, Nat.reduceAdd, Nat.reduceSub, Nat.reduceMul, Nat.reduceBEq, Int.reduceNeg], by simp (disch := first | assumption | omega) only [push_cast, ↓reduceIte, reduceIte, Nat.reduceEqDiff, Nat.reduceAdd, Nat.reduceSub, Nat.reduceMul, Nat.reduceBEq, Int.reduceNeg, Int.natCast_zero]⟩ ?_
  rintro n E H ⟨i, rfl, hi, gr, e5, e13, e14⟩ next
  have gn := gr.1
  by_cases hlt : i < 23
  · have ilt : (i : Int) < 23 := by omega
    have hTi : i < T.length := by omega
    have hWi : i < W.length := by have := hel.1; omega
    have hci := at_cut1 _ _ _ (flatE_cut encS_len W hWi)
    rw [Nat.mul_one] at hci
    obtain ⟨hiT, hoT⟩ := hel.2 i hWi hTi
    have hnf := hro i hTi
    have hgH : H.get bo = some (.cells (flatE encS W) 22 true) := by rw [gr.2 bo hbo]; exact hgo
    generalize flatE encS W = CW at *
    generalize W[i] = w at *
    generalize T[i] = t at *
    obtain ⟨at1, ct, rfl, _⟩ := id hiT
    obtain ⟨n, hn⟩ : ∃ n, n = rowNo i := ⟨_, rfl⟩
    rw [← hn] at hnf
    have hn59 : n ≤ 59 := by rw [hn, rowNo]; split <;> omega
    by_cases h20 : i < 20
    case' pos =>
      have i20 : ¬ (i : Int) ≥ 20 := by omega
      have hnn : (i : Int) + 1 = (n : Int) := by rw [hn, rowNo, if_pos h20]; omega
      repeat' (first
    | ((with_reducible first | refine optP_id ?_ | refine condP_id ?_ | refine condO_id ?_ | refine resP_id ?_ | refine callT_of ?_); conv => { arg 1; simp (disch := first | assumption | omega) only [push_cast, ↓reduceIte, reduceIte, Nat.reduceEqDiff, Nat.reduceAdd, Nat.reduceSub, Nat.reduceMul, Nat.reduceBEq, Int.reduceNeg, e5, e13, e14, hnn] }; first | ((with_reducible refine optP_id ?_); refine optP_some ?_) | ((with_reducible refine condP_id ?_); first | refine qcy ?_ | refine qcx ?_ | refine qco ?_ | refine condP_decn (fun hc => ?_) (fun hc => ?_) | refine condP_dec (fun hc => ?_) (fun hc => ?_) | refine qct ?_ | refine qcf ?_ | refine condP_bool (fun hc => ?_) (fun hc => ?_)) | ((with_reducible refine condO_id ?_); refine condO_some ?_) | ((with_reducible refine resP_id ?_); refine resP_one ?_) | ((with_reducible refine callT_to ?_); refine callP_plain ?_))
    | refine wk_seq ?_ | refine wk_region ?_ | refine wk_block ?_ | refine wk_inBlock ?_ | refine wk_skip ?_ | refine wo_nil ?_ | refine wk_exit ?_ | refine exitK_code ?_ | refine exitK_hit ?_ | refine exitK_miss rfl ?_ | refine exitK_inLoop ?_ | refine wk_cond ?_ | refine wk_ret ?_ | refine wk_nil ?_ | refine wo_dst rfl (opR_call ?_) | refine wo_nodst (opR_call ?_) | refine wo_dst rfl (opR_pick ?_) | refine wo_guard rfl rfl ?_ | refine wo_guardn rfl ?_ | refine wo_dst rfl (opR_pure ?_) | refine wo_nodst (opR_pure ?_)
    | refine give_ret ?_ | refine give_end ?_)
    case' neg =>
      have i20 : (i : Int) ≥ 20 := by omega
      obtain ⟨j, hj⟩ : ∃ j : Nat, (i : Int) - 17 = (j : Int) := ⟨i - 17, by omega⟩
      have hnn : 10 * (j : Int) = (n : Int) := by rw [hn, rowNo, if_neg h20]; omega
      repeat' (first
    | ((with_reducible first | refine optP_id ?_ | refine condP_id ?_ | refine condO_id ?_ | refine resP_id ?_ | refine callT_of ?_); conv => { arg 1; simp (disch := first | assumption | omega) only [push_cast, ↓reduceIte, reduceIte, Nat.reduceEqDiff, Nat.reduceAdd, Nat.reduceSub, Nat.reduceMul, Nat.reduceBEq, Int.reduceNeg, e5, e13, e14, hj, hnn] }; first | ((with_reducible refine optP_id ?_); refine optP_some ?_) | ((with_reducible refine condP_id ?_); first | refine qcy ?_ | refine qcx ?_ | refine qco ?_ | refine condP_decn (fun hc => ?_) (fun hc => ?_) | refine condP_dec (fun hc => ?_) (fun hc => ?_) | refine qct ?_ | refine qcf ?_ | refine condP_bool (fun hc => ?_) (fun hc => ?_)) | ((with_reducible refine condO_id ?_); refine condO_some ?_) | ((with_reducible refine resP_id ?_); refine resP_one ?_) | ((with_reducible refine callT_to ?_); refine callP_plain ?_))
    | refine wk_seq ?_ | refine wk_region ?_ | refine wk_block ?_ | refine wk_inBlock ?_ | refine wk_skip ?_ | refine wo_nil ?_ | refine wk_exit ?_ | refine exitK_code ?_ | refine exitK_hit ?_ | refine exitK_miss rfl ?_ | refine exitK_inLoop ?_ | refine wk_cond ?_ | refine wk_ret ?_ | refine wk_nil ?_ | refine wo_dst rfl (opR_call ?_) | refine wo_nodst (opR_call ?_) | refine wo_dst rfl (opR_pick ?_) | refine wo_guard rfl rfl ?_ | refine wo_guardn rfl ?_ | refine wo_dst rfl (opR_pure ?_) | refine wo_nodst (opR_pure ?_)
    | refine give_ret ?_ | refine give_end ?_)
    all_goals
      refine (of_w n (by omega) _).mono ?_
      rintro _ h7 ⟨⟨v7, d, e7, rfl, hid, hvd, hve, hd8, he8, _⟩, g7⟩; have n7 := g7.1; have k7 := g7.2; try simp only [next_new, next_set] at n7 k7
      obtain ⟨ad, cd, rfl, _⟩ := id hid
      repeat' (first
    | ((with_reducible first | refine optP_id ?_ | refine condP_id ?_ | refine condO_id ?_ | refine resP_id ?_ | refine callT_of ?_); conv => { arg 1; simp (disch := first | assumption | omega) only [push_cast, ↓reduceIte, reduceIte, Nat.reduceEqDiff, Nat.reduceAdd, Nat.reduceSub, Nat.reduceMul, Nat.reduceBEq, Int.reduceNeg, e5, e13, e14] }; first | ((with_reducible refine optP_id ?_); refine optP_some ?_) | ((with_reducible refine condP_id ?_); first | refine qcy ?_ | refine qcx ?_ | refine qco ?_ | refine condP_decn (fun hc => ?_) (fun hc => ?_) | refine condP_dec (fun hc => ?_) (fun hc => ?_) | refine qct ?_ | refine qcf ?_ | refine condP_bool (fun hc => ?_) (fun hc => ?_)) | ((with_reducible refine condO_id ?_); refine condO_some ?_) | ((with_reducible refine resP_id ?_); refine resP_one ?_) | ((with_reducible refine callT_to ?_); refine callP_plain ?_))
    | refine wk_seq ?_ | refine wk_region ?_ | refine wk_block ?_ | refine wk_inBlock ?_ | refine wk_skip ?_ | refine wo_nil ?_ | refine wk_exit ?_ | refine exitK_code ?_ | refine exitK_hit ?_ | refine exitK_miss rfl ?_ | refine exitK_inLoop ?_ | refine wk_cond ?_ | refine wk_ret ?_ | refine wk_nil ?_ | refine wo_dst rfl (opR_call ?_) | refine wo_nodst (opR_call ?_) | refine wo_dst rfl (opR_pick ?_) | refine wo_guard rfl rfl ?_ | refine wo_guardn rfl ?_ | refine wo_dst rfl (opR_pure ?_) | refine wo_nodst (opR_pure ?_)
    | refine give_ret ?_ | refine give_end ?_)
      refine (mul_w a d va hvd (by omega) (by omega) _ _ _ (SlIn.gr ha (by (repeat (first | exact Gr.refl _ | assumption | (refine Gr.trans ?_ (by assumption)) | refine Gr.set ?_ (by first | exact Nat.le_refl _ | omega | (simp only [next_new, next_set]; omega)) _ | refine Gr.new ?_ _)))) hid).mono ?_
      rintro _ h8 ⟨hm8, g8⟩; have n8 := g8.1; have k8 := g8.2; try simp only [next_new, next_set] at n8 k8
      obtain ⟨p, ap, cp, rfl, hip, hpn⟩ := dig_nf hm8 (lt_mul va hvd la hd8 (by omega))
      have hpl := nf_len hpn (lt_mul (k := 16) va hvd la hd8 (by omega))
      have htp : t = p := nf_uniq (i := 0) (j := e7) hnf hpn (by rw [Nat.pow_zero, Nat.mul_one, ← hve, Nat.mul_assoc])
      subst htp
      clear hve hm8
      repeat' (first
    | ((with_reducible first | refine optP_id ?_ | refine condP_id ?_ | refine condO_id ?_ | refine resP_id ?_ | refine callT_of ?_); conv => { arg 1; simp (disch := first | assumption | omega) only [push_cast, ↓reduceIte, reduceIte, Nat.reduceEqDiff, Nat.reduceAdd, Nat.reduceSub, Nat.reduceMul, Nat.reduceBEq, Int.reduceNeg, e5, e13, e14, hgH, hci, k8, k7, Nat.zero_add, Nat.mul_one] }; first | ((with_reducible refine optP_id ?_); refine optP_some ?_) | ((with_reducible refine condP_id ?_); first | refine qcy ?_ | refine qcx ?_ | refine qco ?_ | refine condP_decn (fun hc => ?_) (fun hc => ?_) | refine condP_dec (fun hc => ?_) (fun hc => ?_) | refine qct ?_ | refine qcf ?_ | refine condP_bool (fun hc => ?_) (fun hc => ?_)) | ((with_reducible refine condO_id ?_); refine condO_some ?_) | ((with_reducible refine resP_id ?_); refine resP_one ?_) | ((with_reducible refine callT_to ?_); refine callP_plain ?_))
    | refine wk_seq ?_ | refine wk_region ?_ | refine wk_block ?_ | refine wk_inBlock ?_ | refine wk_skip ?_ | refine wo_nil ?_ | refine wk_exit ?_ | refine exitK_code ?_ | refine exitK_hit ?_ | refine exitK_miss rfl ?_ | refine exitK_inLoop ?_ | refine wk_cond ?_ | refine wk_ret ?_ | refine wk_nil ?_ | refine wo_dst rfl (opR_call ?_) | refine wo_nodst (opR_call ?_) | refine wo_dst rfl (opR_pick ?_) | refine wo_guard rfl rfl ?_ | refine wo_guardn rfl ?_ | refine wo_dst rfl (opR_pure ?_) | refine wo_nodst (opR_pure ?_)
    | refine give_ret ?_ | refine give_end ?_)
      refine (is_w 0 t t _ _ _ (SlIn.gr hiT (by (repeat (first | exact Gr.refl _ | assumption | (refine Gr.trans ?_ (by assumption)) | refine Gr.set ?_ (by first | exact Nat.le_refl _ | omega | (simp only [next_new, next_set]; omega)) _ | refine Gr.new ?_ _)))) hip (by omega)).mono ?_
      rintro _ _ ⟨rfl, rfl⟩
      rw [decide_eq_true ⟨rfl, rfl⟩]
      repeat' (first
    | ((with_reducible first | refine optP_id ?_ | refine condP_id ?_ | refine condO_id ?_ | refine resP_id ?_ | refine callT_of ?_); conv => { arg 1; simp (disch := first | assumption | omega) only [push_cast, ↓reduceIte, reduceIte, Nat.reduceEqDiff, Nat.reduceAdd, Nat.reduceSub, Nat.reduceMul, Nat.reduceBEq, Int.reduceNeg, e5, e13, e14] }; first | ((with_reducible refine optP_id ?_); refine optP_some ?_) | ((with_reducible refine condP_id ?_); first | refine qcy ?_ | refine qcx ?_ | refine qco ?_ | refine condP_decn (fun hc => ?_) (fun hc => ?_) | refine condP_dec (fun hc => ?_) (fun hc => ?_) | refine qct ?_ | refine qcf ?_ | refine condP_bool (fun hc => ?_) (fun hc => ?_)) | ((with_reducible refine condO_id ?_); refine condO_some ?_) | ((with_reducible refine resP_id ?_); refine resP_one ?_) | ((with_reducible refine callT_to ?_); refine callP_plain ?_))
    | refine wk_seq ?_ | refine wk_region ?_ | refine wk_block ?_ | refine wk_inBlock ?_ | refine wk_skip ?_ | refine wo_nil ?_ | refine wk_exit ?_ | refine exitK_code ?_ | refine exitK_hit ?_ | refine exitK_miss rfl ?_ | refine exitK_inLoop ?_ | refine wk_cond ?_ | refine wk_ret ?_ | refine wk_nil ?_ | refine wo_dst rfl (opR_call ?_) | refine wo_nodst (opR_call ?_) | refine wo_dst rfl (opR_pick ?_) | refine wo_guard rfl rfl ?_ | refine wo_guardn rfl ?_ | refine wo_dst rfl (opR_pure ?_) | refine wo_nodst (opR_pure ?_)
    | refine give_ret ?_ | refine give_end ?_)
      exact next (23 - (i + 1)) _ _ (by omega) ⟨i + 1, rfl, by omega, by (repeat (first | exact Gr.refl _ | assumption | (refine Gr.trans ?_ (by assumption)) | refine Gr.set ?_ (by first | exact Nat.le_refl _ | omega | (simp only [next_new, next_set]; omega)) _ | refine Gr.new ?_ _)), by simp (disch := first | assumption | omega) only [push_cast, ↓reduceIte, reduceIte, Nat.reduceEqDiff, Nat.reduceAdd, Nat.reduceSub, Nat.reduceMul, Nat.reduceBEq, Int.reduceNeg, e5], by simp (disch := first | assumption | omega) only [push_cast, ↓reduceIte, reduceIte, Nat.reduceEqDiff, Nat.reduceAdd, Nat.reduceSub, Nat.reduceMul, Nat.reduceBEq, Int.reduceNeg, e13], by simp (disch := first | assumption | omega) only [push_cast, ↓reduceIte, reduceIte, Nat.reduceEqDiff, Nat.reduceAdd, Nat.reduceSub, Nat.reduceMul, Nat.reduceBEq, Int.reduceNeg, Int.natCast_add, Int.natCast_one]⟩
  · have ilt : ¬ (i : Int) < 23 := by omega
    repeat' (first
    | ((with_reducible first | refine optP_id ?_ | refine condP_id ?_ | refine condO_id ?_ | refine resP_id ?_ | refine callT_of ?_); conv => { arg 1; simp (disch := first | assumption | omega) only [push_cast, ↓reduceIte, reduceIte, Nat.reduceEqDiff, Nat.reduceAdd, Nat.reduceSub, Nat.reduceMul, Nat.reduceBEq, Int.reduceNeg, e5, e13, e14] }; first | ((with_reducible refine optP_id ?_); refine optP_some ?_) | ((with_reducible refine condP_id ?_); first | refine qcy ?_ | refine qcx ?_ | refine qco ?_ | refine condP_decn (fun hc => ?_) (fun hc => ?_) | refine condP_dec (fun hc => ?_) (fun hc => ?_) | refine qct ?_ | refine qcf ?_ | refine condP_bool (fun hc => ?_) (fun hc => ?_)) | ((with_reducible refine condO_id ?_); refine condO_some ?_) | ((with_reducible refine resP_id ?_); refine resP_one ?_) | ((with_reducible refine callT_to ?_); refine callP_plain ?_))
    | refine wk_seq ?_ | refine wk_region ?_ | refine wk_block ?_ | refine wk_inBlock ?_ | refine wk_skip ?_ | refine wo_nil ?_ | refine wk_exit ?_ | refine exitK_code ?_ | refine exitK_hit ?_ | refine exitK_miss rfl ?_ | refine exitK_inLoop ?_ | refine wk_cond ?_ | refine wk_ret ?_ | refine wk_nil ?_ | refine wo_dst rfl (opR_call ?_) | refine wo_nodst (opR_call ?_) | refine wo_dst rfl (opR_pick ?_) | refine wo_guard rfl rfl ?_ | refine wo_guardn rfl ?_ | refine wo_dst rfl (opR_pure ?_) | refine wo_nodst (opR_pure ?_)
    | (refine wc_known rfl ?_)
    | refine give_ret ?_ | refine give_end ?_)
    rfl
end Go.Proofs.YtelepfablohdmaaDoor
/- Arguments that are slices: also the empty ones have an address. -/
namespace Go.Ev
open Go.ChangeShapes Go.WideShapes Go.ChangeAt Go.RowKit
theorem Sim.addDead {P : Program} {base : Nat} {ρ : Ren} {h : AHeap} {w : World} (s : Sim P base ρ h w) {b : Nat} (hlt : b < base) (off esz total : Nat) : Sim P base (ρ.put h.next ⟨b, off, esz, total⟩) (h.new .dead) w := by
  have hnone := s.unmet
  have hle := Ren.le_put (p := ⟨b, off, esz, total⟩) hnone
  refine ⟨⟨?_, ?_, ?_, ?_⟩, ?_, s.room⟩
  · intro k p hk
    by_cases e1 : h.next = k
    · exact ⟨.dead, by rw [get_new, if_pos e1], trivial⟩
    · rw [Ren.put_ne _ _ e1] at hk
      obtain ⟨o, h1, h2⟩ := s.rel.obj k p hk
      exact ⟨o, by rw [get_new, if_neg e1]; exact h1, h2.mono hle⟩
  · intro b₁ b₂ p₁ p₂ o₁ o₂ h1 h2 g1 g2 l1 l2 hp
    by_cases e1 : h.next = b₁
    · rw [get_new, if_pos e1] at g1; cases g1; cases l1
    · by_cases e2 : h.next = b₂
      · rw [get_new, if_pos e2] at g2; cases g2; cases l2
      · rw [get_new, if_neg e1] at g1
        rw [get_new, if_neg e2] at g2
        rw [Ren.put_ne _ _ e1] at h1
        rw [Ren.put_ne _ _ e2] at h2
        exact s.rel.inj _ _ _ _ _ _ h1 h2 g1 g2 l1 l2 hp
  · intro k p hk
    by_cases e1 : h.next = k
    · subst e1
      rw [Ren.put_self] at hk; cases hk
      exact Nat.lt_of_lt_of_le hlt s.room
    · rw [Ren.put_ne _ _ e1] at hk; exact s.rel.size k p hk
  · intro k p o hk ho hrw
    by_cases e1 : h.next = k
    · rw [get_new, if_pos e1] at ho; cases ho; cases hrw
    · rw [Ren.put_ne _ _ e1] at hk
      rw [get_new, if_neg e1] at ho
      exact s.rel.lo k p o hk ho hrw
  · intro k hk
    have hk' : Nat.succ h.next ≤ k := hk
    rw [get_new, if_neg (by omega)]
    exact s.void k (by omega)

section
variable {P : Program} {w : World} {H : Type} {enc : TypeId × Value → H}
/-- an argument that is a slice of plain elements -/
theorem take_slice {base : Nat} {ρ : Ren} {h : AHeap} {α : Type} {ev : α → List Value} {k fuel : Nat} {t e : TypeId} {u : Value} {x : DataW H × List MemPlace} {Good : α → Prop} (s : Sim P base ρ h w) (hk : ∀ x, (ev x).length = k) (hk0 : 0 < k) (hu : P.underlying t = some (.slice e)) (hce : P.cellsOf e = k) (hpl : ∀ x, ∀ v ∈ ev x, plainV v = true)
    (hf : DataW.trod enc P w 0 (fun _ => true) true fuel t [u] = some x) (hok : ∀ a n c, u = .slice (some a) n c → a.spot = none ∧ a.block < base)
    (sound : ∀ n cs y, DataW.trod enc P w 0 (fun _ => true) true n e cs = some y → ∃ x, cs = ev x ∧ Good x) :
    ∃ ρ' v h' l, Sim P base ρ' h' w ∧ Ren.le ρ ρ' ∧ VRel ρ' v u ∧ SlIn ev k e h' v l ∧ okC v = true ∧ Gr h h' ∧ (∀ z ∈ l, Good z) ∧ l.length ≤ maxLen ∧ (l = [] ∨ ∃ elems rest, x.1 = .slice elems rest ∧ l.length ≤ elems.length + rest.length) := by
  rcases open_flat hk hk0 hu hce hf sound with h1 | ⟨a, cap, l, h1, hlc, hcm, hg, ⟨elems, rest, h2, h3⟩, hrow, hm⟩
  · cases h1
    exact ⟨ρ, .slice none 0 0, h, [], s, Ren.le_refl ρ, .snil, ⟨none, 0, rfl, Nat.zero_le _, fun h => absurd rfl h⟩, rfl, Gr.refl h, fun _ h => (nomatch h), Nat.zero_le _, .inl rfl⟩
  · cases h1
    obtain ⟨hsp, hlt⟩ := hok a l.length cap rfl
    have hML : maxLen < EX := by unfold maxLen EX; omega
    by_cases hne : l = []
    · subst hne
      refine ⟨_, .slice (some ⟨h.next, 0, none⟩) 0 0, _, [], s.addDead hlt a.off 0 a.off, Ren.le_put s.unmet, ?_, ⟨_, 0, rfl, Nat.zero_le _, fun h => absurd rfl h⟩, rfl, ⟨Nat.le_succ _, fun b hb => by rw [get_new, if_neg (by omega)]⟩, fun _ h => (nomatch h), Nat.zero_le _, .inl rfl⟩
      refine .sl (p := ⟨a.block, a.off, 0, a.off⟩) ⟨rfl, hsp, _, Ren.put_self _ _ _, rfl, by simp⟩ ⟨Nat.zero_le _, fun hq => by cases hq⟩ (Nat.zero_le _) (Ren.put_self _ _ _) (.inr ?_)
      show 0 + a.off + cap * 0 ≤ a.off
      omega
    · obtain ⟨off, cs, e', fz, ha, hheap, hfit, hcell⟩ := hm hne
      have hlen : (flatE ev l).length = l.length * k := flatE_length hk l
      have hlk : l.length * k ≤ cap * k := Nat.mul_le_mul_right k hlc
      have hcr : ∀ ρ', CRel ρ' (flatE ev l) cs off := fun ρ' => by
        refine ⟨by rw [hlen]; omega, fun i u hi => ⟨u, hcell i u hi, plain_rel ?_⟩⟩
        obtain ⟨x, hx, hux⟩ := List.mem_flatMap.1 (List.mem_of_getElem? hi)
        exact hpl x u hux
      have s' := s.addRo hheap hlt e off (flatE ev l) (hcr _)
      have hcs := capLo_small (c := l.length) (by omega)
      refine ⟨_, .slice (some ⟨h.next, 0, none⟩) l.length l.length, _, l, s', Ren.le_put s.unmet, ?_, ⟨_, _, rfl, by rw [hcs.1]; exact Nat.le_refl _, fun _ => ⟨h.next, 0, flatE ev l, false, rfl, Nat.lt_succ_self _, by rw [get_new, if_pos rfl], fun i hi => by rw [Nat.zero_add]; exact flatE_cut hk l hi⟩⟩, rfl, ⟨Nat.le_succ _, fun b hb => by rw [get_new, if_neg (by omega)]⟩, hg, Nat.le_trans hlc hcm, .inr ⟨elems, rest, h2, by omega⟩⟩
      refine .sl (p := ⟨a.block, off, P.cellsOf e, cs.size⟩) ⟨rfl, by rw [ha], _, Ren.put_self _ _ _, rfl, by rw [ha]; simp⟩ ⟨by rw [hcs.1]; exact hlc, fun hq => by rw [hcs.2] at hq; cases hq⟩ (by rw [hcs.1]; exact Nat.le_refl _) (Ren.put_self _ _ _) (.inr ?_)
      show 0 + off + cap * P.cellsOf e ≤ cs.size
      rw [hce]; omega
theorem slice_has {r : Go.Reach} {b0 : Nat} {t e : TypeId} {u : Value} (hu : P.underlying t = some (.slice e)) (h : Cell.okWide P w r b0 t u) : ∀ a n c, u = .slice (some a) n c → a.spot = none ∧ a.block < w.heap.size := by
  rintro a n c rfl
  simp only [Cell.okWide, Cell.ok, hu] at h
  obtain ⟨_, _, _, hs, row, cells, hsh, _⟩ := h
  refine ⟨hs, ?_⟩
  unfold World.shape? at hsh
  split at hsh
  · rename_i hh
    exact (Array.getElem?_eq_some_iff.1 hh).1
  · cases hsh
end
end Go.Ev
/- From a walk to the model's calls, with arguments in memory. -/
namespace Go.Proofs.YtelepfablohdmaaDoor
open Go.ChangeShapes Go.WideShapes Go.ChangeAt Go.RowKit
open Go.Ev
theorem ev_calls {f : FuncId} {fn : Func} {body : Code} {args args' : List Value} {w : World} {ρ : Ren} {h : AHeap} (hf : Tryd.prog.funcs[f]? = some fn) (hb : fn.body = some body) (hno : isIn pr.K f = false) (st : Sim pr.P w.heap.size ρ h w) (ha : VRels ρ args args') (c : Wc pr (.func f) args h fun v _ => v = .bool true) (hL : isIn pr.L f = false := by rfl) :
    Calls Tryd.prog f args'.toArray w fun e w' => e = .returned (.bool true) ∧ RowKit.Below w.heap.size w w' := by
  refine (Wc.calls (p := pr) orders noNum known18 hf hb hno ha st c hL (attX_good orders noNum)).mono ?_
  rintro e w' ⟨ρ', v, v', h', rfl, hv, hw, rfl⟩
  exact ⟨by rw [hv.bool_inv], hw.ext.below⟩
end Go.Proofs.YtelepfablohdmaaDoor
/- An argument that is a list of integers. -/
namespace Go.Proofs.YtelepfablohdmaaDoor
open Go.ChangeShapes Go.WideShapes Go.ChangeAt Go.RowKit
open Go.Ev
set_option maxRecDepth 100000 in
theorem take_ints {W : World} {H : Type} {enc : TypeId × Value → H} {base : Nat} {ρ : Ren} {h : AHeap} {fuel : Nat} {u : Value} {x : DataW H × List MemPlace} (s : Sim Tryd.prog base ρ h W)
    (hf : DataW.trod enc Tryd.prog W 0 (fun _ => true) true fuel 22 [u] = some x) (hok : ∀ a n c, u = .slice (some a) n c → a.spot = none ∧ a.block < base) :
    ∃ ρ' v h' l, Sim Tryd.prog base ρ' h' W ∧ Ren.le ρ ρ' ∧ VRel ρ' v u ∧ IIn h' v l ∧ Gr h h' ∧ (l = [] ∨ ∃ elems rest, x.1 = .slice elems rest ∧ l.length ≤ elems.length + rest.length) := by
  have c3 : Tryd.prog.cellsOf 3 = 1 := by kernel_rfl
  have snd : ∀ n cs y, DataW.trod enc Tryd.prog W 0 (fun _ => true) true n 3 cs = some y → ∃ x : Int, cs = encI x ∧ True := fun n cs y hy => by
    have hlc : ∃ z, cs = [z] := by
      cases n with
      | zero => cases hy
      | succ n =>
        unfold DataW.trod at hy
        rw [Tryd.underlying3] at hy
        split at hy <;> simp_all
    obtain ⟨z, rfl⟩ := hlc
    obtain ⟨i, hi, _⟩ := DataW.trod_int Tryd.underlying3 hy
    exact ⟨i, hi, trivial⟩
  have pl : ∀ x : Int, ∀ v ∈ encI x, plainV v = true := fun x v hv => by rw [encI_eq] at hv; rw [List.mem_singleton.1 hv]; rfl
  obtain ⟨ρ1, u1, h1', l, st, le, hrel1, hin1, _, gr, _, _, hb1⟩ := take_slice (e := 3) (ev := encI) (Good := fun _ => True) s encI_len (by decide) Tryd.underlying22 c3 pl hf hok snd
  exact ⟨ρ1, u1, h1', l, st, le, hrel1, hin1, gr, hb1⟩
end Go.Proofs.YtelepfablohdmaaDoor
namespace Go.Proofs.YtelepfablohdmaaDoor.placeTableParts
open Go.ChangeShapes Go.WideShapes Go.ChangeAt Go.RowKit
open Go.Ev
theorem own : ownKnob Tryd.prog.godebug = none := by kernel_rfl
theorem laidOut : laidOutB Tryd.prog = true := by kernel_rfl
theorem door_met (os : Os) (args : Array Value) : laidMetH Tryd.prog Rows.placeTablePartsRow.laid ((World.doorLaid Tryd.prog 400 os).forCall (fun _ _ => 0) ⟨#[], args, []⟩).memory :=
  laidMetH_of_parts3 (fuel := 8) (laidMet_of_run' 8 (by kernel_rfl) (by kernel_rfl)) (by kernel_rfl) (by kernel_rfl)
set_option maxRecDepth 100000 in
theorem lifted (os : Os) (started : os.Started) (H : Type) (enc : TypeId × Value → H) :
    ReturnsInHanded {} Tryd.checked os 11 .any (fun w args => (Rows.placeTablePartsSpec.pre enc Tryd.prog Tryd.f11 [] false w args ∧ laidMetH Tryd.prog Rows.placeTablePartsRow.laid w) ∧ sizedMet enc Tryd.prog Tryd.f11 (OpenSpec.ofChange Rows.placeTablePartsSpec) false w args)
      (Rows.placeTablePartsSpec.post enc Tryd.prog Tryd.f11 false true false false) := by
  refine returnsInHanded_of_change_and (C := Tryd.checked) (X := fun w _ => laidMetH Tryd.prog Rows.placeTablePartsRow.laid w) (fun _ _ _ hh h => h.of_heap hh) own started (by kernel_rfl) Tryd.func11
    (ChangeSpec.witness_shaped (enc := enc) (C := Tryd.checked) (os := os) (X := fun w _ => laidMetH Tryd.prog Rows.placeTablePartsRow.laid w) false (World.doorLaid Tryd.prog 400 os) #[.slice none 0 0, .slice none 0 0] 8 rfl (World.shaped_of_RefB (by kernel_rfl) (by kernel_rfl)) (by kernel_rfl) (by kernel_rfl) (by kernel_rfl) (door_met os _)) ?_
  intro W base args ds gs before hval0 hW hcnd hsize hL _
  have hval : ∀ (j : Nat) t v, Tryd.f11.params[j]? = some t → args[j]? = some v → Value.okWide Tryd.prog W .any base t v := hval0
  have hW' := hW
  obtain ⟨p, q, hA0, hV, rfl, hfz, hnd⟩ := hW
  have hA : DataW.TrodAll enc Tryd.prog W 0 (fun _ => true) true Tryd.f11.params.toList args.toList ds p := hA0
  rw [Tryd.params11] at hA hval
  obtain ⟨v0, vs0, d0, ds0, p0, q0, hargs, rfl, rfl, h0, r0⟩ := trodAll_cons hA
  obtain ⟨v1, vs1, d1, ds1, p1, q1, rfl, rfl, rfl, h1, r1⟩ := trodAll_cons r0
  obtain ⟨rfl, rfl, rfl⟩ := trodAll_nil r1
  obtain rfl : args = #[v0, v1] := by cases args; simp_all
  obtain ⟨rfl, rfl⟩ := trodVars_none hV
  have hlt : ∀ x ∈ p0 ++ (p1 ++ []) ++ [], x.block < W.heap.size := fun x hx => by simpa using hW'.lt x hx
  have hasOf : ∀ v, Value.okWide Tryd.prog W .any base 22 v → ∀ a n c, v = .slice (some a) n c → a.spot = none ∧ a.block < W.heap.size := fun v hc => by
    simp only [Value.okWide, Tryd.underlying22] at hc
    exact slice_has Tryd.underlying22 hc
  have w0 := hval 0 22 v0 rfl rfl
  have w1 := hval 1 22 v1 rfl rfl
  have s0 := hasOf v0 w0
  have s1 := hasOf v1 w1
  obtain ⟨x0, y0, z0, rfl⟩ := okWide_slice Tryd.underlying22 w0
  obtain ⟨x1, y1, z1, rfl⟩ := okWide_slice Tryd.underlying22 w1
  obtain ⟨f0, hf0⟩ := id h0
  obtain ⟨f1, hf1⟩ := id h1
  obtain ⟨ρ0, u0, k0, l0, st0, _, e0, i0, _, b0⟩ := take_ints (sim_empty Tryd.prog W) hf0 s0
  obtain ⟨ρ1, u1, k1, l1, st1, le1, e1, i1, g1, b1⟩ := take_ints st0 hf1 s1
  have by3 : Tryd.checked.prog.bytesOf 3 = 8 := by kernel_rfl
  have hrb : reachBytes = 140737488351232 := rfl
  have m0 : l0.length ≤ 4611686018427387904 := by
    rcases b0 with h | ⟨elems, rest, he, hle⟩
    · rw [h]; decide
    · have he' : d0 = .slice elems rest := he
      subst he'
      have h2 := sized_slice (j := 0) (t := 22) (e := 3) hsize (by rw [Tryd.params11]; rfl) rfl Tryd.underlying22
      rw [by3] at h2
      omega
  have m1 : l1.length ≤ 4611686018427387904 := by
    rcases b1 with h | ⟨elems, rest, he, hle⟩
    · rw [h]; decide
    · have he' : d1 = .slice elems rest := he
      subst he'
      have h2 := sized_slice (j := 1) (t := 22) (e := 3) hsize (by rw [Tryd.params11]; rfl) rfl Tryd.underlying22
      rw [by3] at h2
      omega
  have walk : Calls Tryd.prog 11 #[.slice x0 y0 z0, .slice x1 y1 z1] W fun e w' => e = .returned (.bool true) ∧ Below W.heap.size W w' :=
    ev_calls (args := [u0, u1]) (args' := [.slice x0 y0 z0, .slice x1 y1 z1]) Tryd.func11 rfl rfl st1 (.cons (e0.mono le1) (.cons e1 .nil)) (tableparts_w l0 l1 m0 m1 u0 u1 k1 (SlIn.gr i0 g1) i1)
  clear hA0 hval0
  refine walk.mono fun e W' ⟨he, bel⟩ => ?_
  subst he
  exact ⟨_, rfl, _, _, _, [], _, [], hW', trodAll_mk1 (shut_bool Tryd.underlying4 _),
    (trodAll_cons_mk (Below.trod laidOut (by kernel_rfl) (of_decide_eq_true (by kernel_rfl)) h0 bel (fun x hx => hlt x (by simp [hx]))) (trodAll_cons_mk (Below.trod laidOut (by kernel_rfl) (of_decide_eq_true (by kernel_rfl)) h1 bel (fun x hx => hlt x (by simp [hx]))) trodAll_mk0)), rfl, bel.frame _, fun h => by cases h⟩

theorem over : Rows.placeTablePartsRow.holds Tryd.pinned (OpenSpec.ofChange Rows.placeTablePartsSpec) :=
  OpenClaim.holds_of_wide 11 Tryd.f11 rfl rfl rfl rfl rfl rfl rfl ⟨rfl, rfl, rfl, rfl, rfl⟩ rfl rfl rfl rfl rfl (by kernel_rfl) Tryd.func11 (by kernel_rfl)
    (of_decide_eq_true (by kernel_rfl)) (by unfold Func.isWrapper; first | (rw [if_pos (by decide +kernel)]; kernel_rfl) | (rw [if_neg (by decide +kernel)]; exact ⟨rfl, rfl⟩))
    (fun os started H enc _ => lifted os started H enc)

/-- ████ THE STATEMENT ████ -/
theorem proved : Rows.PlaceTablePartsCardSaid :=
  Claim7.holds_tied_plain_at .later [] [.data, .data, .data, .sentinel, .sentinel] true (true, "bd892c4444a31cd429df92d33bdde4b8fe5a6a42d748716a65f78352491fc3bf") true
    over (fun _ h => by cases h) (by kernel_rfl) (fun _ h => by cases h) placeTableParts_row_tie rfl ⟨rfl, rfl⟩ (by kernel_rfl) rfl
    (fun f fn hf hfn => by
      obtain rfl : f = 11 := Option.some.inj ((show Tryd.prog.funcNamed "bulla/bullalaw03.PlaceTableParts" = some 11 by kernel_rfl).symm.trans hf) |>.symm
      obtain rfl : fn = Tryd.f11 := (Option.some.inj (Tryd.func11.symm.trans hfn)).symm
      exact ⟨by kernel_rfl, fun j t ht => by
        rw [Tryd.params11] at ht
        have hm : t ∈ [22, 22] := by simpa using Array.mem_of_getElem? ht
        have hall : ([22, 22].all fun u => !Tryd.prog.wantsStandIn u) = true := by kernel_rfl
        exact (show Tryd.prog.wantsStandIn t = false by simpa using List.all_eq_true.1 hall t hm)⟩)
    (by kernel_rfl)
#print axioms proved
end Go.Proofs.YtelepfablohdmaaDoor.placeTableParts
