/- The walk of the law PlaceNearBounds. -/
import Derived.Test.YtelepfablohdmaaGreatDoorVK
import Derived.Test.YtelepfablohdmaaGreatDoorVJ
import Derived.Test.YtelepfablohdmaaGreatDoorVH
set_option linter.unusedSimpArgs false
set_option linter.unusedVariables false
/- Sums of partial products; the law's times and square. -/
namespace Go.Proofs.YtelepfablohdmaaGreatDoor
open Go.Ev
theorem nf_ex {P : Nat} (hP : P < 60 ^ 146) : ∃ d, nf P d := by
  obtain ⟨r, h', _, hp, _⟩ := place_w P hP 0 (by omega) (by omega) ⟨.lf, 0⟩
  rcases hp with ⟨h0, _⟩ | ⟨h0, l, e, v, hl, hn, hval, _⟩
  · exact ⟨[], valid_nil, ⟨fun _ => h0, fun _ => rfl⟩, 0, by rw [h0]; rfl⟩
  · exact ⟨l, hl, ⟨fun h => absurd h hn, fun h => absurd h h0⟩, e, hval⟩
theorem sum_val {P : Nat} {r : Value} {H : AHeap} (hp : placeR (P * 60 ^ 64) (-64) r H) (hP : P < 60 ^ 16) (h0 : P ≠ 0) : ∃ d a c, ∃ e : Nat, r = .tuple #[.agg #[.slice a d.length c, .int .i64 (e : Int)], .int .i64 0] ∧ IIn H (.slice a d.length c) d ∧ valid d ∧ d ≠ [] ∧ d.length + e ≤ 16 ∧ valN d * 60 ^ e = P := by
  rcases hp with ⟨q, rfl⟩ | ⟨q, l, e, v, hl, hn, hval, hle, hE⟩
  · rcases Nat.mul_eq_zero.1 q with q | q
    · exact absurd q h0
    · exact absurd q (Nat.ne_of_gt (pow60_pos 64))
  · obtain ⟨d0, hv0, he0, e0, hd0⟩ := nf_ex (Nat.lt_of_lt_of_le hP (Nat.pow_le_pow_right (by decide) (show 16 ≤ 146 by omega)))
    have hd00 : d0 ≠ [] := fun hh => h0 (he0.1 hh)
    obtain ⟨h1, h2⟩ := pow_split (valN_mod hl hn) (valN_mod hv0 hd00) (show valN l * 60 ^ e = valN d0 * 60 ^ (e0 + 64) by rw [hval, Nat.pow_add, ← Nat.mul_assoc, hd0])
    rw [← h1] at hd0
    have hlen := place_len hl hn hd0 hP
    subst h2
    rcases hE with ⟨h3, rfl, hin⟩ | ⟨h3, _⟩
    · obtain ⟨a, c, rfl, _⟩ := id hin
      exact ⟨l, a, c, e0, by rw [show -64 + ((e0 + 64 : Nat) : Int) = (e0 : Int) by omega], hin, hl, hn, hlen, hd0⟩
    · exact absurd ((placeE_zero (s := -64 + ((e0 + 64 : Nat) : Int)) hl hn (by omega) (by omega)).1 (by omega)) h3
theorem sum_of {X T m : Nat} {L : List (List Int × Int)} {r : Value} {H : AHeap} (hs : sumR L r H) (hc : cInv X 0 T m L) (hm : m ≤ 64) : placeR (X * T * 60 ^ 64) (-64) r H := by
  obtain ⟨h1, h2, h3⟩ := hc
  rcases hs with ⟨q, _⟩ | ⟨_, i, hi, _, q, _⟩ | ⟨_, _, q⟩
  · omega
  · exact absurd (placeE_ok.2 (h2 _ (List.getElem_mem hi))) q
  · rw [sumU_all] at q
    rw [Nat.mul_zero, Nat.zero_mul, Nat.add_zero] at h3
    rw [h3] at q
    exact q
theorem unit_prod {l d : List Int} {s : Int} {M e e1 n : Nat} (h1 : valN d * 60 ^ e = valN l * M) (h2 : M * 60 ^ e1 = n) (hs : -64 ≤ s) : unitN d ((e : Int) + (s + (e1 : Int))) = unitN l s * n := by
  obtain ⟨z, hz⟩ : ∃ z : Nat, s + 64 = (z : Int) := ⟨(s + 64).toNat, by omega⟩
  rw [unitN, unitN, show (e : Int) + (s + (e1 : Int)) + 64 = ((e + (z + e1) : Nat) : Int) by omega, hz, Int.toNat_natCast, Int.toNat_natCast, Nat.pow_add, ← Nat.mul_assoc, h1, ← h2, Nat.pow_add]
  generalize 60 ^ z = A
  generalize 60 ^ e1 = B
  grind
set_option maxRecDepth 100000 in
set_option maxHeartbeats 8000000 in
theorem lawtimes_w (l : List Int) (s : Int) (n : Nat) (hl : valid l) (hl0 : l ≠ []) (ll : l.length ≤ 9) (hs1 : -30 ≤ s) (hs2 : s ≤ 30) (hn : 1 ≤ n) (hn2 : n ≤ 1000000) (v : Value) (h : AHeap) (hv : IIn h v l) :
    Wc pr (.func 51) [.agg #[v, .int .i64 s], .int .i64 (n : Int)] h fun r h' => (∃ d a c t, r = .tuple #[.agg #[.slice a d.length c, .int .i64 t], .bool true] ∧ IIn h' (.slice a d.length c) d ∧ okP d t ∧ unitN d t = unitN l s * n) ∧ Gr h h' := by
  have hv0 := hv
  obtain ⟨al, cl, rfl, _⟩ := hv
  refine wc_func Tryz.func51 rfl rfl rfl rfl ?_
  repeat' (first
    | ((with_reducible first | refine optP_id ?_ | refine condP_id ?_ | refine condO_id ?_ | refine resP_id ?_ | refine callT_of ?_); conv => { arg 1; simp (disch := first | assumption | omega) only [push_cast, ↓reduceIte, reduceIte, Nat.reduceEqDiff, Nat.reduceAdd, Nat.reduceSub, Nat.reduceMul, Nat.reduceBEq, Int.reduceNeg] }; first | ((with_reducible refine optP_id ?_); refine optP_some ?_) | ((with_reducible refine condP_id ?_); first | refine qcy ?_ | refine qcx ?_ | refine qco ?_ | refine condP_decn (fun hc => ?_) (fun hc => ?_) | refine condP_dec (fun hc => ?_) (fun hc => ?_) | refine qct ?_ | refine qcf ?_ | refine condP_bool (fun hc => ?_) (fun hc => ?_)) | ((with_reducible refine condO_id ?_); refine condO_some ?_) | ((with_reducible refine resP_id ?_); refine resP_two ?_) | ((with_reducible refine callT_to ?_); refine callP_plain ?_))
    | refine wk_seq ?_ | refine wk_region ?_ | refine wk_block ?_ | refine wk_inBlock ?_ | refine wk_skip ?_ | refine wo_nil ?_ | refine wk_exit ?_ | refine exitK_code ?_ | refine exitK_hit ?_ | refine exitK_miss rfl ?_ | refine exitK_inLoop ?_ | refine wk_cond ?_ | refine wk_ret ?_ | refine wk_nil ?_ | refine wo_dst rfl (opR_call ?_) | refine wo_nodst (opR_call ?_) | refine wo_dst rfl (opR_pick ?_) | refine wo_guard rfl rfl ?_ | refine wo_guardn rfl ?_ | refine wo_dst rfl (opR_pure ?_) | refine wo_nodst (opR_pure ?_)
    | refine give_ret ?_ | refine give_end ?_)
  refine (of_w n (by omega) _).mono ?_
  rintro _ h1 ⟨⟨v1, m, e1, rfl, him, hvm, hve, hm8, he8, hz⟩, g1⟩; have n1 := g1.1; have k1 := g1.2; try simp only [next_new, next_set] at n1 k1
  have hm0 : m ≠ [] := fun hh => by have := hz.2 hh; omega
  obtain ⟨am, cm, rfl, _⟩ := id him
  repeat' (first
    | ((with_reducible first | refine optP_id ?_ | refine condP_id ?_ | refine condO_id ?_ | refine resP_id ?_ | refine callT_of ?_); conv => { arg 1; simp (disch := first | assumption | omega) only [push_cast, ↓reduceIte, reduceIte, Nat.reduceEqDiff, Nat.reduceAdd, Nat.reduceSub, Nat.reduceMul, Nat.reduceBEq, Int.reduceNeg, k1] }; first | ((with_reducible refine optP_id ?_); refine optP_some ?_) | ((with_reducible refine condP_id ?_); first | refine qcy ?_ | refine qcx ?_ | refine qco ?_ | refine condP_decn (fun hc => ?_) (fun hc => ?_) | refine condP_dec (fun hc => ?_) (fun hc => ?_) | refine qct ?_ | refine qcf ?_ | refine condP_bool (fun hc => ?_) (fun hc => ?_)) | ((with_reducible refine condO_id ?_); refine condO_some ?_) | ((with_reducible refine resP_id ?_); refine resP_two ?_) | ((with_reducible refine callT_to ?_); refine callP_plain ?_))
    | refine wk_seq ?_ | refine wk_region ?_ | refine wk_block ?_ | refine wk_inBlock ?_ | refine wk_skip ?_ | refine wo_nil ?_ | refine wk_exit ?_ | refine exitK_code ?_ | refine exitK_hit ?_ | refine exitK_miss rfl ?_ | refine exitK_inLoop ?_ | refine wk_cond ?_ | refine wk_ret ?_ | refine wk_nil ?_ | refine wo_dst rfl (opR_call ?_) | refine wo_nodst (opR_call ?_) | refine wo_dst rfl (opR_pick ?_) | refine wo_guard rfl rfl ?_ | refine wo_guardn rfl ?_ | refine wo_dst rfl (opR_pure ?_) | refine wo_nodst (opR_pure ?_)
    | refine give_ret ?_ | refine give_end ?_)
  refine (whole_w m hvm (by omega) _ _ him).mono ?_
  rintro _ h2 ⟨rfl, g2⟩; have n2 := g2.1; have k2 := g2.2; try simp only [next_new, next_set] at n2 k2
  have hMp := valN_pos hvm hm0
  have hM1 : valN m ≤ n := by rw [← hve]; exact Nat.le_mul_of_pos_right _ (pow60_pos e1)
  rw [if_pos (by omega)]
  have hlt60 : ∀ i, i < e1 → valN m * 60 ^ i < n := fun i hi => by
    rw [← hve]; exact Nat.mul_lt_mul_of_pos_left ((Nat.pow_lt_pow_iff_right (by decide)).2 hi) hMp
  have hle60 : ∀ i, i ≤ e1 → valN m * 60 ^ i ≤ n := fun i hi => by
    rw [← hve]; exact Nat.mul_le_mul_left _ (Nat.pow_le_pow_right (by decide) hi)
  have hst60 : ∀ i, valN m * 60 ^ (i + 1) = valN m * 60 ^ i * 60 := fun i => by rw [Nat.pow_succ, Nat.mul_assoc]
  have hz60 : valN m * 60 ^ 0 = valN m := by rw [Nat.pow_zero, Nat.mul_one]
  generalize hM : valN m = M at *
  have cM : ¬ (M : Int) < 1 := by omega
  repeat' (first
    | ((with_reducible first | refine optP_id ?_ | refine condP_id ?_ | refine condO_id ?_ | refine resP_id ?_ | refine callT_of ?_); conv => { arg 1; simp (disch := first | assumption | omega) only [push_cast, ↓reduceIte, reduceIte, Nat.reduceEqDiff, Nat.reduceAdd, Nat.reduceSub, Nat.reduceMul, Nat.reduceBEq, Int.reduceNeg, k1, k2] }; first | ((with_reducible refine optP_id ?_); refine optP_some ?_) | ((with_reducible refine condP_id ?_); first | refine qcy ?_ | refine qcx ?_ | refine qco ?_ | refine condP_decn (fun hc => ?_) (fun hc => ?_) | refine condP_dec (fun hc => ?_) (fun hc => ?_) | refine qct ?_ | refine qcf ?_ | refine condP_bool (fun hc => ?_) (fun hc => ?_)) | ((with_reducible refine condO_id ?_); refine condO_some ?_) | ((with_reducible refine resP_id ?_); refine resP_two ?_) | ((with_reducible refine callT_to ?_); refine callP_plain ?_))
    | refine wk_seq ?_ | refine wk_region ?_ | refine wk_block ?_ | refine wk_inBlock ?_ | refine wk_skip ?_ | refine wo_nil ?_ | refine wk_exit ?_ | refine exitK_code ?_ | refine exitK_hit ?_ | refine exitK_miss rfl ?_ | refine exitK_inLoop ?_ | refine wk_cond ?_ | refine wk_ret ?_ | refine wk_nil ?_ | refine wo_dst rfl (opR_call ?_) | refine wo_nodst (opR_call ?_) | refine wo_dst rfl (opR_pick ?_) | refine wo_guard rfl rfl ?_ | refine wo_guardn rfl ?_ | refine wo_dst rfl (opR_pure ?_) | refine wo_nodst (opR_pure ?_)
    | refine give_ret ?_ | refine give_end ?_)
  refine wk_loop (fun k E H => ∃ i : Nat, k = e1 - i ∧ i ≤ e1 ∧ h2 = H ∧ E.look 1 top = .int .i64 (n : Int) ∧ E.look 2 top = .pointer (some ⟨h.next, 0, none⟩) ∧ E.look 4 top = .pointer (some ⟨h.next + 1, 0, none⟩) ∧ E.look 6 top = .slice am m.length cm ∧ E.look 10 top = .int .i64 (s + (i : Int)) ∧ E.look 11 top = .int .i64 ((M * 60 ^ i : Nat) : Int)) e1
    ⟨0, rfl, by omega, rfl, by simp (disch := first | assumption | omega) only [push_cast, ↓reduceIte, reduceIte, Nat.reduceEqDiff, Nat.reduceAdd, Nat.reduceSub, Nat.reduceMul, Nat.reduceBEq, Int.reduceNeg], by simp (disch := first | assumption | omega) only [push_cast, ↓reduceIte, reduceIte, Nat.reduceEqDiff, Nat.reduceAdd, Nat.reduceSub, Nat.reduceMul, Nat.reduceBEq, Int.reduceNeg], by simp (disch := first | assumption | omega) only [push_cast, ↓reduceIte, reduceIte, Nat.reduceEqDiff, Nat.reduceAdd, Nat.reduceSub, Nat.reduceMul, Nat.reduceBEq, Int.reduceNeg], by simp (disch := first | assumption | omega) only [push_cast, ↓reduceIte, reduceIte, Nat.reduceEqDiff, Nat.reduceAdd, Nat.reduceSub, Nat.reduceMul, Nat.reduceBEq, Int.reduceNeg], by simp (disch := first | assumption | omega) only [push_cast, ↓reduceIte, reduceIte, Nat.reduceEqDiff, Nat.reduceAdd, Nat.reduceSub, Nat.reduceMul, Nat.reduceBEq, Int.reduceNeg, Int.natCast_zero, Int.add_zero], by rw [hz60]; simp (disch := first | assumption | omega) only [push_cast, ↓reduceIte, reduceIte, Nat.reduceEqDiff, Nat.reduceAdd, Nat.reduceSub, Nat.reduceMul, Nat.reduceBEq, Int.reduceNeg]⟩ ?_
  rintro k E _ ⟨i, rfl, hi, rfl, x1, x2, x4, x6, x10, x11⟩ next
  have b1 := hle60 i hi
  have b2 := hst60 i
  by_cases hgo : i < e1
  · have b3 := hlt60 i hgo
    generalize M * 60 ^ i = Z at *
    have zn : (Z : Int) < (n : Int) := by omega
    repeat' (first
    | ((with_reducible first | refine optP_id ?_ | refine condP_id ?_ | refine condO_id ?_ | refine resP_id ?_ | refine callT_of ?_); conv => { arg 1; simp (disch := first | assumption | omega) only [push_cast, ↓reduceIte, reduceIte, Nat.reduceEqDiff, Nat.reduceAdd, Nat.reduceSub, Nat.reduceMul, Nat.reduceBEq, Int.reduceNeg, x1, x2, x4, x6, x10, x11] }; first | ((with_reducible refine optP_id ?_); refine optP_some ?_) | ((with_reducible refine condP_id ?_); first | refine qcy ?_ | refine qcx ?_ | refine qco ?_ | refine condP_decn (fun hc => ?_) (fun hc => ?_) | refine condP_dec (fun hc => ?_) (fun hc => ?_) | refine qct ?_ | refine qcf ?_ | refine condP_bool (fun hc => ?_) (fun hc => ?_)) | ((with_reducible refine condO_id ?_); refine condO_some ?_) | ((with_reducible refine resP_id ?_); refine resP_two ?_) | ((with_reducible refine callT_to ?_); refine callP_plain ?_))
    | refine wk_seq ?_ | refine wk_region ?_ | refine wk_block ?_ | refine wk_inBlock ?_ | refine wk_skip ?_ | refine wo_nil ?_ | refine wk_exit ?_ | refine exitK_code ?_ | refine exitK_hit ?_ | refine exitK_miss rfl ?_ | refine exitK_inLoop ?_ | refine wk_cond ?_ | refine wk_ret ?_ | refine wk_nil ?_ | refine wo_dst rfl (opR_call ?_) | refine wo_nodst (opR_call ?_) | refine wo_dst rfl (opR_pick ?_) | refine wo_guard rfl rfl ?_ | refine wo_guardn rfl ?_ | refine wo_dst rfl (opR_pure ?_) | refine wo_nodst (opR_pure ?_)
    | refine give_ret ?_ | refine give_end ?_)
    exact next (e1 - (i + 1)) _ _ (by omega) ⟨i + 1, rfl, by omega, rfl, by simp (disch := first | assumption | omega) only [push_cast, ↓reduceIte, reduceIte, Nat.reduceEqDiff, Nat.reduceAdd, Nat.reduceSub, Nat.reduceMul, Nat.reduceBEq, Int.reduceNeg, x1], by simp (disch := first | assumption | omega) only [push_cast, ↓reduceIte, reduceIte, Nat.reduceEqDiff, Nat.reduceAdd, Nat.reduceSub, Nat.reduceMul, Nat.reduceBEq, Int.reduceNeg, x2], by simp (disch := first | assumption | omega) only [push_cast, ↓reduceIte, reduceIte, Nat.reduceEqDiff, Nat.reduceAdd, Nat.reduceSub, Nat.reduceMul, Nat.reduceBEq, Int.reduceNeg, x4], by simp (disch := first | assumption | omega) only [push_cast, ↓reduceIte, reduceIte, Nat.reduceEqDiff, Nat.reduceAdd, Nat.reduceSub, Nat.reduceMul, Nat.reduceBEq, Int.reduceNeg, x6], by rw [show s + ((i + 1 : Nat) : Int) = s + (i : Int) + 1 by omega]; simp (disch := first | assumption | omega) only [push_cast, ↓reduceIte, reduceIte, Nat.reduceEqDiff, Nat.reduceAdd, Nat.reduceSub, Nat.reduceMul, Nat.reduceBEq, Int.reduceNeg], by rw [b2, show ((Z * 60 : Nat) : Int) = (Z : Int) * 60 by omega]; simp (disch := first | assumption | omega) only [push_cast, ↓reduceIte, reduceIte, Nat.reduceEqDiff, Nat.reduceAdd, Nat.reduceSub, Nat.reduceMul, Nat.reduceBEq, Int.reduceNeg]⟩
  · obtain rfl : i = e1 := by omega
    rw [hve] at x11
    have zn : ¬ (n : Int) < (n : Int) := by omega
    clear next
    repeat' (first
    | ((with_reducible first | refine optP_id ?_ | refine condP_id ?_ | refine condO_id ?_ | refine resP_id ?_ | refine callT_of ?_); conv => { arg 1; simp (disch := first | assumption | omega) only [push_cast, ↓reduceIte, reduceIte, Nat.reduceEqDiff, Nat.reduceAdd, Nat.reduceSub, Nat.reduceMul, Nat.reduceBEq, Int.reduceNeg, x1, x2, x4, x6, x10, x11, k2, k1] }; first | ((with_reducible refine optP_id ?_); refine optP_some ?_) | ((with_reducible refine condP_id ?_); first | refine qcy ?_ | refine qcx ?_ | refine qco ?_ | refine condP_decn (fun hc => ?_) (fun hc => ?_) | refine condP_dec (fun hc => ?_) (fun hc => ?_) | refine qct ?_ | refine qcf ?_ | refine condP_bool (fun hc => ?_) (fun hc => ?_)) | ((with_reducible refine condO_id ?_); refine condO_some ?_) | ((with_reducible refine resP_id ?_); refine resP_two ?_) | ((with_reducible refine callT_to ?_); refine callP_plain ?_))
    | refine wk_seq ?_ | refine wk_region ?_ | refine wk_block ?_ | refine wk_inBlock ?_ | refine wk_skip ?_ | refine wo_nil ?_ | refine wk_exit ?_ | refine exitK_code ?_ | refine exitK_hit ?_ | refine exitK_miss rfl ?_ | refine exitK_inLoop ?_ | refine wk_cond ?_ | refine wk_ret ?_ | refine wk_nil ?_ | refine wo_dst rfl (opR_call ?_) | refine wo_nodst (opR_call ?_) | refine wo_dst rfl (opR_pick ?_) | refine wo_guard rfl rfl ?_ | refine wo_guardn rfl ?_ | refine wo_dst rfl (opR_pure ?_) | refine wo_nodst (opR_pure ?_)
    | refine give_ret ?_ | refine give_end ?_)
    refine (bytable_w l m hl (by omega) hvm (by omega) _ _ _ (SlIn.gr hv0 (by (repeat (first | exact Gr.refl _ | assumption | (refine Gr.trans ?_ (by assumption)) | refine Gr.set ?_ (by first | exact Nat.le_refl _ | omega | (simp only [next_new, next_set]; omega)) _ | refine Gr.new ?_ _)))) (SlIn.gr him (by (repeat (first | exact Gr.refl _ | assumption | (refine Gr.trans ?_ (by assumption)) | refine Gr.set ?_ (by first | exact Nat.le_refl _ | omega | (simp only [next_new, next_set]; omega)) _ | refine Gr.new ?_ _)))) (okC_sl _ _ _) (okC_sl _ _ _)).mono ?_
    rintro _ h3 ⟨⟨L, aL, cL, rfl, hL, hci⟩, g3⟩; have n3 := g3.1; have k3 := g3.2; try simp only [next_new, next_set] at n3 k3
    rw [hM] at hci
    repeat' (first
    | ((with_reducible first | refine optP_id ?_ | refine condP_id ?_ | refine condO_id ?_ | refine resP_id ?_ | refine callT_of ?_); conv => { arg 1; simp (disch := first | assumption | omega) only [push_cast, ↓reduceIte, reduceIte, Nat.reduceEqDiff, Nat.reduceAdd, Nat.reduceSub, Nat.reduceMul, Nat.reduceBEq, Int.reduceNeg, x1, x2, x4, x6, x10, x11] }; first | ((with_reducible refine optP_id ?_); refine optP_some ?_) | ((with_reducible refine condP_id ?_); first | refine qcy ?_ | refine qcx ?_ | refine qco ?_ | refine condP_decn (fun hc => ?_) (fun hc => ?_) | refine condP_dec (fun hc => ?_) (fun hc => ?_) | refine qct ?_ | refine qcf ?_ | refine condP_bool (fun hc => ?_) (fun hc => ?_)) | ((with_reducible refine condO_id ?_); refine condO_some ?_) | ((with_reducible refine resP_id ?_); refine resP_two ?_) | ((with_reducible refine callT_to ?_); refine callP_plain ?_))
    | refine wk_seq ?_ | refine wk_region ?_ | refine wk_block ?_ | refine wk_inBlock ?_ | refine wk_skip ?_ | refine wo_nil ?_ | refine wk_exit ?_ | refine exitK_code ?_ | refine exitK_hit ?_ | refine exitK_miss rfl ?_ | refine exitK_inLoop ?_ | refine wk_cond ?_ | refine wk_ret ?_ | refine wk_nil ?_ | refine wo_dst rfl (opR_call ?_) | refine wo_nodst (opR_call ?_) | refine wo_dst rfl (opR_pick ?_) | refine wo_guard rfl rfl ?_ | refine wo_guardn rfl ?_ | refine wo_dst rfl (opR_pure ?_) | refine wo_nodst (opR_pure ?_)
    | refine give_ret ?_ | refine give_end ?_)
    refine (sum_w L _ _ hL (by have := hci.1; omega) (fun i hi => by have := (hci.2.1 _ (List.getElem_mem hi)).2.1; omega)).mono ?_
    rintro r4 h4 ⟨hsum, g4⟩; have n4 := g4.1; have k4 := g4.2; try simp only [next_new, next_set] at n4 k4
    have hP : valN l * M < 60 ^ 16 := by
      have q1 := Nat.lt_of_lt_of_le (valN_lt hl.1) (Nat.pow_le_pow_right (n := 60) (by decide) ll)
      have q2 := Nat.mul_le_mul (Nat.le_of_lt q1) (show M ≤ 1000000 by omega)
      have q3 : 60 ^ 9 * 1000000 < 60 ^ 16 := by decide
      omega
    have hP0 : valN l * M ≠ 0 := Nat.mul_ne_zero (Nat.ne_of_gt (valN_pos hl hl0)) (by omega)
    obtain ⟨d, a, c, e, rfl, hid, hvd, hnd, hle, hval⟩ := sum_val (sum_of hsum hci (by omega)) hP hP0
    have hun := unit_prod hval hve (by omega : -64 ≤ s)
    clear hP hP0 hsum hci hval hlt60 hle60 hst60 hz60 hve b1 b2
    repeat' (first
    | ((with_reducible first | refine optP_id ?_ | refine condP_id ?_ | refine condO_id ?_ | refine resP_id ?_ | refine callT_of ?_); conv => { arg 1; simp (disch := first | assumption | omega) only [push_cast, ↓reduceIte, reduceIte, Nat.reduceEqDiff, Nat.reduceAdd, Nat.reduceSub, Nat.reduceMul, Nat.reduceBEq, Int.reduceNeg, x1, x2, x4, x6, x10, x11, k4, k3, k2, k1] }; first | ((with_reducible refine optP_id ?_); refine optP_some ?_) | ((with_reducible refine condP_id ?_); first | refine qcy ?_ | refine qcx ?_ | refine qco ?_ | refine condP_decn (fun hc => ?_) (fun hc => ?_) | refine condP_dec (fun hc => ?_) (fun hc => ?_) | refine qct ?_ | refine qcf ?_ | refine condP_bool (fun hc => ?_) (fun hc => ?_)) | ((with_reducible refine condO_id ?_); refine condO_some ?_) | ((with_reducible refine resP_id ?_); refine resP_two ?_) | ((with_reducible refine callT_to ?_); refine callP_plain ?_))
    | refine wk_seq ?_ | refine wk_region ?_ | refine wk_block ?_ | refine wk_inBlock ?_ | refine wk_skip ?_ | refine wo_nil ?_ | refine wk_exit ?_ | refine exitK_code ?_ | refine exitK_hit ?_ | refine exitK_miss rfl ?_ | refine exitK_inLoop ?_ | refine wk_cond ?_ | refine wk_ret ?_ | refine wk_nil ?_ | refine wo_dst rfl (opR_call ?_) | refine wo_nodst (opR_call ?_) | refine wo_dst rfl (opR_pick ?_) | refine wo_guard rfl rfl ?_ | refine wo_guardn rfl ?_ | refine wo_dst rfl (opR_pure ?_) | refine wo_nodst (opR_pure ?_)
    | refine give_ret ?_ | refine give_end ?_)
    exact ⟨⟨d, a, c, _, rfl, IIn.setQ (C := [.slice none 0 0, .int .i64 0]) (e' := 41) (rw' := true) (SlIn.gr hid (by (repeat (first | exact Gr.refl _ | assumption | (refine Gr.trans ?_ (by assumption)) | refine Gr.set ?_ (by first | exact Nat.le_refl _ | omega | (simp only [next_new, next_set]; omega)) _ | refine Gr.new ?_ _)))) (by simp (disch := first | assumption | omega) only [push_cast, ↓reduceIte, reduceIte, Nat.reduceEqDiff, Nat.reduceAdd, Nat.reduceSub, Nat.reduceMul, Nat.reduceBEq, Int.reduceNeg, k4, k3, k2, k1]) (by decide), ⟨hvd, by omega, by omega, by omega, fun hh => absurd hh hnd⟩, hun⟩, by (repeat (first | exact Gr.refl _ | assumption | (refine Gr.trans ?_ (by assumption)) | refine Gr.set ?_ (by first | exact Nat.le_refl _ | omega | (simp only [next_new, next_set]; omega)) _ | refine Gr.new ?_ _))⟩
end Go.Proofs.YtelepfablohdmaaGreatDoor
namespace Go.Proofs.YtelepfablohdmaaGreatDoor
open Go.Ev
theorem plR_unit {X k K : Nat} {v : Value} {sh : Int} {H : AHeap} (p : plR X (-(k : Int)) v sh H) (hX0 : X ≠ 0) (hX : X < 60 ^ K) (hK : K ≤ 16) (hk : k ≤ 30) : ∃ d a c, v = .slice a d.length c ∧ IIn H (.slice a d.length c) d ∧ okP d sh ∧ d ≠ [] ∧ d.length ≤ K ∧ -30 ≤ sh ∧ sh ≤ 16 ∧ unitN d sh = X * 60 ^ (64 - k) := by
  rcases p with ⟨h0, _⟩ | ⟨_, d, e, hi, hv, hn, hval, rfl, _⟩
  · exact absurd h0 hX0
  · obtain ⟨a, c, rfl, _⟩ := id hi
    have hl := place_len hv hn hval hX
    refine ⟨d, a, c, rfl, hi, ⟨hv, by omega, by omega, by omega, fun h => absurd h hn⟩, hn, by omega, by omega, by omega, ?_⟩
    rw [unitN, ← hval, show -(k : Int) + (e : Int) + 64 = ((e + (64 - k) : Nat) : Int) by omega, Int.toNat_natCast, Nat.pow_add, Nat.mul_assoc]
theorem sgn_eq (X : Nat) : sgnN X X = 0 := by unfold sgnN; rw [if_neg (Nat.lt_irrefl X), if_neg (Nat.lt_irrefl X)]
theorem sgn_lt {X Y : Nat} (h : X < Y) : sgnN X Y = -1 := by unfold sgnN; rw [if_pos h]
theorem near_sgn {n k m M U V : Nat} (hn : 1 ≤ n) (hk : k ≤ 30) (hm : m = 60 ^ k / n) (hM : M = if 60 ^ k % n = 0 then m else m + 1) (hU : U = m * 60 ^ (64 - k)) (hV : V = M * 60 ^ (64 - k)) : ∃ z : Int, (z = 0 ∨ z = -1) ∧ sgnN (U * n) (60 ^ 64) = z ∧ sgnN (60 ^ 64) (V * n) = z ∧ sgnN U V = z := by
  have hdm := Nat.div_add_mod (60 ^ k) n
  have h64 : (60 : Nat) ^ 64 = 60 ^ k * 60 ^ (64 - k) := by rw [← Nat.pow_add]; congr 1; omega
  have hA : 0 < 60 ^ (64 - k) := pow60_pos _
  have eU : U * n = (n * m) * 60 ^ (64 - k) := by rw [hU, Nat.mul_comm n m, Nat.mul_right_comm]
  have eV : V * n = (n * M) * 60 ^ (64 - k) := by rw [hV, Nat.mul_comm n M, Nat.mul_right_comm]
  rw [← hm] at hdm
  by_cases hr : 60 ^ k % n = 0
  · rw [if_pos hr] at hM
    rw [hr, Nat.add_zero] at hdm
    refine ⟨0, .inl rfl, ?_, ?_, ?_⟩
    · rw [eU, h64, hdm]; exact sgn_eq _
    · rw [eV, h64, hM, hdm]; exact sgn_eq _
    · rw [hU, hV, hM]; exact sgn_eq _
  · rw [if_neg hr] at hM
    have hlt : 60 ^ k % n < n := Nat.mod_lt _ hn
    refine ⟨-1, .inr rfl, ?_, ?_, ?_⟩
    · rw [eU, h64]; exact sgn_lt (Nat.mul_lt_mul_of_pos_right (by omega) hA)
    · rw [eV, h64, hM]; exact sgn_lt (Nat.mul_lt_mul_of_pos_right (by rw [Nat.mul_add, Nat.mul_one]; omega) hA)
    · rw [hU, hV, hM]; exact sgn_lt (Nat.mul_lt_mul_of_pos_right (by omega) hA)
theorem near_m {n dg k : Nat} (hn : 1 ≤ n) (hn2 : n ≤ 1099511627776) (hdg : 1 ≤ dg) (hdg2 : dg ≤ 8) (h : nearK n dg k) : 60 ^ k / n ≠ 0 ∧ 60 ^ k / n < 60 ^ dg ∧ k ≤ 14 := by
  obtain ⟨h1, h2⟩ := h
  have hp := pow60_pos (dg - 1)
  have hpd : 60 ^ dg = 60 ^ (dg - 1) * 60 := by rw [← Nat.pow_succ]; congr 1; omega
  refine ⟨by omega, ?_, ?_⟩
  · rcases h2 with rfl | h2
    · have : 60 ^ 0 / n ≤ 1 := Nat.div_le_self _ _
      omega
    · have hk0 : k ≠ 0 := fun hk => by subst hk; exact absurd h1 (Nat.not_le.2 h2)
      obtain ⟨j, rfl⟩ : ∃ j, k = j + 1 := ⟨k - 1, by omega⟩
      rw [Nat.add_sub_cancel] at h2
      have h3 := (near_step (k := j) hn).1
      have h4 : (60 ^ j % n) * 60 / n < 60 := by
        rw [Nat.div_lt_iff_lt_mul hn]
        have := Nat.mod_lt (60 ^ j) hn
        rw [Nat.mul_comm 60 n]
        exact Nat.mul_lt_mul_of_pos_right this (by decide)
      omega
  · rcases h2 with rfl | h2
    · omega
    · have := near_small hn2 hn (Nat.pow_le_pow_right (by decide) (show dg - 1 ≤ 7 by omega)) h2
      omega
set_option maxRecDepth 100000 in
set_option maxHeartbeats 8000000 in
theorem nearbounds_w (x y : Int) (h : AHeap) : Wc pr (.func 10) [.int .i64 x, .int .i64 y] h fun r h' => r = .bool true := by
  refine wc_func Tryz.func10 rfl rfl rfl rfl ?_
  repeat' (first
    | ((with_reducible first | refine optP_id ?_ | refine condP_id ?_ | refine condO_id ?_ | refine resP_id ?_ | refine callT_of ?_); conv => { arg 1; simp (disch := first | assumption | omega) only [push_cast, ↓reduceIte, reduceIte, Nat.reduceEqDiff, Nat.reduceAdd, Nat.reduceSub, Nat.reduceMul, Nat.reduceBEq, Int.reduceNeg] }; first | ((with_reducible refine optP_id ?_); refine optP_some ?_) | ((with_reducible refine condP_id ?_); first | refine qcy ?_ | refine qcx ?_ | refine qco ?_ | refine condP_decn (fun hc => ?_) (fun hc => ?_) | refine condP_dec (fun hc => ?_) (fun hc => ?_) | refine qct ?_ | refine qcf ?_ | refine condP_bool (fun hc => ?_) (fun hc => ?_)) | ((with_reducible refine condO_id ?_); refine condO_some ?_) | ((with_reducible refine resP_id ?_); refine resP_one ?_) | ((with_reducible refine callT_to ?_); refine callP_plain ?_))
    | refine wk_seq ?_ | refine wk_region ?_ | refine wk_skip ?_ | refine wo_nil ?_ | refine wk_cond ?_ | refine wk_ret ?_ | refine wk_nil ?_ | refine wo_dst rfl (opR_call ?_) | refine wo_nodst (opR_call ?_) | refine wo_dst rfl (opR_pick ?_) | refine wo_guard rfl rfl ?_ | refine wo_guardn rfl ?_ | refine wo_dst rfl (opR_pure ?_) | refine wo_nodst (opR_pure ?_)
    | refine give_ret ?_ | refine give_end ?_)
  refine (bring_w x 1000000 (by omega) (by omega) _).mono ?_
  rintro _ _ ⟨rfl, rfl⟩
  obtain ⟨n, hn⟩ : ∃ n : Nat, 1 + x % 1000000 = (n : Int) := ⟨(1 + x % 1000000).toNat, by omega⟩
  have hn1 : 1 ≤ n := by omega
  have hn2 : n ≤ 1000000 := by omega
  generalize x % 1000000 = x1 at *
  repeat' (first
    | ((with_reducible first | refine optP_id ?_ | refine condP_id ?_ | refine condO_id ?_ | refine resP_id ?_ | refine callT_of ?_); conv => { arg 1; simp (disch := first | assumption | omega) only [push_cast, ↓reduceIte, reduceIte, Nat.reduceEqDiff, Nat.reduceAdd, Nat.reduceSub, Nat.reduceMul, Nat.reduceBEq, Int.reduceNeg, hn] }; first | ((with_reducible refine optP_id ?_); refine optP_some ?_) | ((with_reducible refine condP_id ?_); first | refine qcy ?_ | refine qcx ?_ | refine qco ?_ | refine condP_decn (fun hc => ?_) (fun hc => ?_) | refine condP_dec (fun hc => ?_) (fun hc => ?_) | refine qct ?_ | refine qcf ?_ | refine condP_bool (fun hc => ?_) (fun hc => ?_)) | ((with_reducible refine condO_id ?_); refine condO_some ?_) | ((with_reducible refine resP_id ?_); refine resP_one ?_) | ((with_reducible refine callT_to ?_); refine callP_plain ?_))
    | refine wk_seq ?_ | refine wk_region ?_ | refine wk_skip ?_ | refine wo_nil ?_ | refine wk_cond ?_ | refine wk_ret ?_ | refine wk_nil ?_ | refine wo_dst rfl (opR_call ?_) | refine wo_nodst (opR_call ?_) | refine wo_dst rfl (opR_pick ?_) | refine wo_guard rfl rfl ?_ | refine wo_guardn rfl ?_ | refine wo_dst rfl (opR_pure ?_) | refine wo_nodst (opR_pure ?_)
    | refine give_ret ?_ | refine give_end ?_)
  refine (bring_w y 8 (by omega) (by omega) _).mono ?_
  rintro _ _ ⟨rfl, rfl⟩
  obtain ⟨dg, hdg⟩ : ∃ n : Nat, 1 + y % 8 = (n : Int) := ⟨(1 + y % 8).toNat, by omega⟩
  have hd1 : 1 ≤ dg := by omega
  have hd2 : dg ≤ 8 := by omega
  generalize y % 8 = y1 at *
  repeat' (first
    | ((with_reducible first | refine optP_id ?_ | refine condP_id ?_ | refine condO_id ?_ | refine resP_id ?_ | refine callT_of ?_); conv => { arg 1; simp (disch := first | assumption | omega) only [push_cast, ↓reduceIte, reduceIte, Nat.reduceEqDiff, Nat.reduceAdd, Nat.reduceSub, Nat.reduceMul, Nat.reduceBEq, Int.reduceNeg, hdg] }; first | ((with_reducible refine optP_id ?_); refine optP_some ?_) | ((with_reducible refine condP_id ?_); first | refine qcy ?_ | refine qcx ?_ | refine qco ?_ | refine condP_decn (fun hc => ?_) (fun hc => ?_) | refine condP_dec (fun hc => ?_) (fun hc => ?_) | refine qct ?_ | refine qcf ?_ | refine condP_bool (fun hc => ?_) (fun hc => ?_)) | ((with_reducible refine condO_id ?_); refine condO_some ?_) | ((with_reducible refine resP_id ?_); refine resP_one ?_) | ((with_reducible refine callT_to ?_); refine callP_plain ?_))
    | refine wk_seq ?_ | refine wk_region ?_ | refine wk_skip ?_ | refine wo_nil ?_ | refine wk_cond ?_ | refine wk_ret ?_ | refine wk_nil ?_ | refine wo_dst rfl (opR_call ?_) | refine wo_nodst (opR_call ?_) | refine wo_dst rfl (opR_pick ?_) | refine wo_guard rfl rfl ?_ | refine wo_guardn rfl ?_ | refine wo_dst rfl (opR_pure ?_) | refine wo_nodst (opR_pure ?_)
    | refine give_ret ?_ | refine give_end ?_)
  refine (near_w (n : Int) (dg : Int) _).mono ?_
  rintro _ h1 ⟨hnr, g1⟩; have n1 := g1.1; have k1 := g1.2; try simp only [next_new, next_set] at n1 k1
  rcases hnr with ⟨q, _⟩ | ⟨_, n', dg', k, q1, q2, _, hk, v, sh, v2, sh2, rfl, p1, p2⟩
  · exact absurd ⟨by omega, by omega, by omega, by omega⟩ q
  obtain rfl : n = n' := by omega
  obtain rfl : dg = dg' := by omega
  obtain ⟨m0, mlt, hk14⟩ := near_m hn1 (by omega) hd1 hd2 hk
  generalize hm : 60 ^ k / n = m at *
  generalize hM : (if 60 ^ k % n = 0 then m else m + 1) = M at *
  have hMm : M ≤ m + 1 ∧ M ≠ 0 := by rw [← hM]; split <;> omega
  have Mlt : M < 60 ^ (dg + 1) := by
    have : 60 ^ (dg + 1) = 60 ^ dg * 60 := Nat.pow_succ 60 dg
    omega
  obtain ⟨d, a, c, rfl, hid, hok, hdn, hdl, hs1, hs2, hU⟩ := plR_unit p1 m0 mlt (by omega) (by omega)
  obtain ⟨d2, a2, c2, rfl, hid2, hok2, hdn2, hdl2, ht1, ht2, hV⟩ := plR_unit p2 hMm.2 Mlt (by omega) (by omega)
  obtain ⟨z, hz, hz1, hz2, hz3⟩ := near_sgn hn1 (by omega) hm.symm hM.symm hU hV
  have hone : unitN [1] 0 = 60 ^ 64 := by rw [unitN, valN_one, Nat.one_mul]; rfl
  rw [← hone] at hz1 hz2
  have okone : okP [1] 0 := ⟨one_valid, by simp, by omega, by omega, fun h => by cases h⟩
  generalize hO : unitN [1] 0 = O at *
  clear mlt Mlt hMm hm hM hU hV hk p1 p2 q1 q2 m0 hone
  repeat' (first
    | ((with_reducible first | refine optP_id ?_ | refine condP_id ?_ | refine condO_id ?_ | refine resP_id ?_ | refine callT_of ?_); conv => { arg 1; simp (disch := first | assumption | omega) only [push_cast, ↓reduceIte, reduceIte, Nat.reduceEqDiff, Nat.reduceAdd, Nat.reduceSub, Nat.reduceMul, Nat.reduceBEq, Int.reduceNeg, k1] }; first | ((with_reducible refine optP_id ?_); refine optP_some ?_) | ((with_reducible refine condP_id ?_); first | refine qcy ?_ | refine qcx ?_ | refine qco ?_ | refine condP_decn (fun hc => ?_) (fun hc => ?_) | refine condP_dec (fun hc => ?_) (fun hc => ?_) | refine qct ?_ | refine qcf ?_ | refine condP_bool (fun hc => ?_) (fun hc => ?_)) | ((with_reducible refine condO_id ?_); refine condO_some ?_) | ((with_reducible refine resP_id ?_); refine resP_one ?_) | ((with_reducible refine callT_to ?_); refine callP_plain ?_))
    | refine wk_seq ?_ | refine wk_region ?_ | refine wk_skip ?_ | refine wo_nil ?_ | refine wk_cond ?_ | refine wk_ret ?_ | refine wk_nil ?_ | refine wo_dst rfl (opR_call ?_) | refine wo_nodst (opR_call ?_) | refine wo_dst rfl (opR_pick ?_) | refine wo_guard rfl rfl ?_ | refine wo_guardn rfl ?_ | refine wo_dst rfl (opR_pure ?_) | refine wo_nodst (opR_pure ?_)
    | refine give_ret ?_ | refine give_end ?_)
  refine (checkplace_w d sh _ _ (SlIn.gr hid (by (repeat (first | exact Gr.refl _ | assumption | (refine Gr.trans ?_ (by assumption)) | refine Gr.set ?_ (by first | exact Nat.le_refl _ | omega | (simp only [next_new, next_set]; omega)) _ | refine Gr.new ?_ _)))) (by omega)).mono ?_
  rintro _ h2 ⟨rfl, g2⟩; have n2 := g2.1; have k2 := g2.2; try simp only [next_new, next_set] at n2 k2
  rw [placeE_ok.2 hok]
  repeat' (first
    | ((with_reducible first | refine optP_id ?_ | refine condP_id ?_ | refine condO_id ?_ | refine resP_id ?_ | refine callT_of ?_); conv => { arg 1; simp (disch := first | assumption | omega) only [push_cast, ↓reduceIte, reduceIte, Nat.reduceEqDiff, Nat.reduceAdd, Nat.reduceSub, Nat.reduceMul, Nat.reduceBEq, Int.reduceNeg, k1, k2] }; first | ((with_reducible refine optP_id ?_); refine optP_some ?_) | ((with_reducible refine condP_id ?_); first | refine qcy ?_ | refine qcx ?_ | refine qco ?_ | refine condP_decn (fun hc => ?_) (fun hc => ?_) | refine condP_dec (fun hc => ?_) (fun hc => ?_) | refine qct ?_ | refine qcf ?_ | refine condP_bool (fun hc => ?_) (fun hc => ?_)) | ((with_reducible refine condO_id ?_); refine condO_some ?_) | ((with_reducible refine resP_id ?_); refine resP_one ?_) | ((with_reducible refine callT_to ?_); refine callP_plain ?_))
    | refine wk_seq ?_ | refine wk_region ?_ | refine wk_skip ?_ | refine wo_nil ?_ | refine wk_cond ?_ | refine wk_ret ?_ | refine wk_nil ?_ | refine wo_dst rfl (opR_call ?_) | refine wo_nodst (opR_call ?_) | refine wo_dst rfl (opR_pick ?_) | refine wo_guard rfl rfl ?_ | refine wo_guardn rfl ?_ | refine wo_dst rfl (opR_pure ?_) | refine wo_nodst (opR_pure ?_)
    | refine give_ret ?_ | refine give_end ?_)
  refine (checkplace_w d2 sh2 _ _ (SlIn.gr hid2 (by (repeat (first | exact Gr.refl _ | assumption | (refine Gr.trans ?_ (by assumption)) | refine Gr.set ?_ (by first | exact Nat.le_refl _ | omega | (simp only [next_new, next_set]; omega)) _ | refine Gr.new ?_ _)))) (by omega)).mono ?_
  rintro _ h3 ⟨rfl, g3⟩; have n3 := g3.1; have k3 := g3.2; try simp only [next_new, next_set] at n3 k3
  rw [placeE_ok.2 hok2]
  have hlen : ¬ (d.length : Int) > (dg : Int) := by omega
  repeat' (first
    | ((with_reducible first | refine optP_id ?_ | refine condP_id ?_ | refine condO_id ?_ | refine resP_id ?_ | refine callT_of ?_); conv => { arg 1; simp (disch := first | assumption | omega) only [push_cast, ↓reduceIte, reduceIte, Nat.reduceEqDiff, Nat.reduceAdd, Nat.reduceSub, Nat.reduceMul, Nat.reduceBEq, Int.reduceNeg, k1, k2, k3] }; first | ((with_reducible refine optP_id ?_); refine optP_some ?_) | ((with_reducible refine condP_id ?_); first | refine qcy ?_ | refine qcx ?_ | refine qco ?_ | refine condP_decn (fun hc => ?_) (fun hc => ?_) | refine condP_dec (fun hc => ?_) (fun hc => ?_) | refine qct ?_ | refine qcf ?_ | refine condP_bool (fun hc => ?_) (fun hc => ?_)) | ((with_reducible refine condO_id ?_); refine condO_some ?_) | ((with_reducible refine resP_id ?_); refine resP_one ?_) | ((with_reducible refine callT_to ?_); refine callP_plain ?_))
    | refine wk_seq ?_ | refine wk_region ?_ | refine wk_skip ?_ | refine wo_nil ?_ | refine wk_cond ?_ | refine wk_ret ?_ | refine wk_nil ?_ | refine wo_dst rfl (opR_call ?_) | refine wo_nodst (opR_call ?_) | refine wo_dst rfl (opR_pick ?_) | refine wo_guard rfl rfl ?_ | refine wo_guardn rfl ?_ | refine wo_dst rfl (opR_pure ?_) | refine wo_nodst (opR_pure ?_)
    | refine give_ret ?_ | refine give_end ?_)
  refine (lawtimes_w d sh n hok.1 hdn (by omega) (by omega) (by omega) hn1 hn2 _ _ (SlIn.gr hid (by (repeat (first | exact Gr.refl _ | assumption | (refine Gr.trans ?_ (by assumption)) | refine Gr.set ?_ (by first | exact Nat.le_refl _ | omega | (simp only [next_new, next_set]; omega)) _ | refine Gr.new ?_ _))))).mono ?_
  rintro _ h4 ⟨⟨p, ap, cp, tp, rfl, hip, okp, hup⟩, g4⟩; have n4 := g4.1; have k4 := g4.2; try simp only [next_new, next_set] at n4 k4
  repeat' (first
    | ((with_reducible first | refine optP_id ?_ | refine condP_id ?_ | refine condO_id ?_ | refine resP_id ?_ | refine callT_of ?_); conv => { arg 1; simp (disch := first | assumption | omega) only [push_cast, ↓reduceIte, reduceIte, Nat.reduceEqDiff, Nat.reduceAdd, Nat.reduceSub, Nat.reduceMul, Nat.reduceBEq, Int.reduceNeg, k1, k2, k3, k4] }; first | ((with_reducible refine optP_id ?_); refine optP_some ?_) | ((with_reducible refine condP_id ?_); first | refine qcy ?_ | refine qcx ?_ | refine qco ?_ | refine condP_decn (fun hc => ?_) (fun hc => ?_) | refine condP_dec (fun hc => ?_) (fun hc => ?_) | refine qct ?_ | refine qcf ?_ | refine condP_bool (fun hc => ?_) (fun hc => ?_)) | ((with_reducible refine condO_id ?_); refine condO_some ?_) | ((with_reducible refine resP_id ?_); refine resP_one ?_) | ((with_reducible refine callT_to ?_); refine callP_plain ?_))
    | refine wk_seq ?_ | refine wk_region ?_ | refine wk_skip ?_ | refine wo_nil ?_ | refine wk_cond ?_ | refine wk_ret ?_ | refine wk_nil ?_ | refine wo_dst rfl (opR_call ?_) | refine wo_nodst (opR_call ?_) | refine wo_dst rfl (opR_pick ?_) | refine wo_guard rfl rfl ?_ | refine wo_guardn rfl ?_ | refine wo_dst rfl (opR_pure ?_) | refine wo_nodst (opR_pure ?_)
    | refine give_ret ?_ | refine give_end ?_)
  refine (lawtimes_w d2 sh2 n hok2.1 hdn2 (by omega) (by omega) (by omega) hn1 hn2 _ _ (SlIn.gr hid2 (by (repeat (first | exact Gr.refl _ | assumption | (refine Gr.trans ?_ (by assumption)) | refine Gr.set ?_ (by first | exact Nat.le_refl _ | omega | (simp only [next_new, next_set]; omega)) _ | refine Gr.new ?_ _))))).mono ?_
  rintro _ h5 ⟨⟨q, aq, cq, tq, rfl, hiq, okq, huq⟩, g5⟩; have n5 := g5.1; have k5 := g5.2; try simp only [next_new, next_set] at n5 k5
  rw [← hup] at hz1
  rw [← huq] at hz2
  clear hup huq
  repeat' (first
    | ((with_reducible first | refine optP_id ?_ | refine condP_id ?_ | refine condO_id ?_ | refine resP_id ?_ | refine callT_of ?_); conv => { arg 1; simp (disch := first | assumption | omega) only [push_cast, ↓reduceIte, reduceIte, Nat.reduceEqDiff, Nat.reduceAdd, Nat.reduceSub, Nat.reduceMul, Nat.reduceBEq, Int.reduceNeg, k1, k2, k3, k4, k5] }; first | ((with_reducible refine optP_id ?_); refine optP_some ?_) | ((with_reducible refine condP_id ?_); first | refine qcy ?_ | refine qcx ?_ | refine qco ?_ | refine condP_decn (fun hc => ?_) (fun hc => ?_) | refine condP_dec (fun hc => ?_) (fun hc => ?_) | refine qct ?_ | refine qcf ?_ | refine condP_bool (fun hc => ?_) (fun hc => ?_)) | ((with_reducible refine condO_id ?_); refine condO_some ?_) | ((with_reducible refine resP_id ?_); refine resP_one ?_) | ((with_reducible refine callT_to ?_); refine callP_plain ?_))
    | refine wk_seq ?_ | refine wk_region ?_ | refine wk_skip ?_ | refine wo_nil ?_ | refine wk_cond ?_ | refine wk_ret ?_ | refine wk_nil ?_ | refine wo_dst rfl (opR_call ?_) | refine wo_nodst (opR_call ?_) | refine wo_dst rfl (opR_pick ?_) | refine wo_guard rfl rfl ?_ | refine wo_guardn rfl ?_ | refine wo_dst rfl (opR_pure ?_) | refine wo_nodst (opR_pure ?_)
    | refine give_ret ?_ | refine give_end ?_)
  refine (compare_w p [1] tp 0 _ _ _ (SlIn.gr hip (by (repeat (first | exact Gr.refl _ | assumption | (refine Gr.trans ?_ (by assumption)) | refine Gr.set ?_ (by first | exact Nat.le_refl _ | omega | (simp only [next_new, next_set]; omega)) _ | refine Gr.new ?_ _)))) (onei_in (by first | omega | (simp only [next_new, next_set]; omega)) (by simp (disch := first | assumption | omega) only [push_cast, ↓reduceIte, reduceIte, Nat.reduceEqDiff, Nat.reduceAdd, Nat.reduceSub, Nat.reduceMul, Nat.reduceBEq, Int.reduceNeg, k5, k4])) (okC_sl _ _ _) (okC_sl _ _ _) (by have := okp.2.1; omega) (by simp)).mono ?_
  rintro _ h6 ⟨rfl, g6⟩; have n6 := g6.1; have k6 := g6.2; try simp only [next_new, next_set] at n6 k6
  rw [if_neg (fun hh => hh (placeE_ok.2 okp)), if_neg (fun hh => hh (placeE_ok.2 okone)), hO, hz1]
  repeat' (first
    | ((with_reducible first | refine optP_id ?_ | refine condP_id ?_ | refine condO_id ?_ | refine resP_id ?_ | refine callT_of ?_); conv => { arg 1; simp (disch := first | assumption | omega) only [push_cast, ↓reduceIte, reduceIte, Nat.reduceEqDiff, Nat.reduceAdd, Nat.reduceSub, Nat.reduceMul, Nat.reduceBEq, Int.reduceNeg, k1, k2, k3, k4, k5, k6] }; first | ((with_reducible refine optP_id ?_); refine optP_some ?_) | ((with_reducible refine condP_id ?_); first | refine qcy ?_ | refine qcx ?_ | refine qco ?_ | refine condP_decn (fun hc => ?_) (fun hc => ?_) | refine condP_dec (fun hc => ?_) (fun hc => ?_) | refine qct ?_ | refine qcf ?_ | refine condP_bool (fun hc => ?_) (fun hc => ?_)) | ((with_reducible refine condO_id ?_); refine condO_some ?_) | ((with_reducible refine resP_id ?_); refine resP_one ?_) | ((with_reducible refine callT_to ?_); refine callP_plain ?_))
    | refine wk_seq ?_ | refine wk_region ?_ | refine wk_skip ?_ | refine wo_nil ?_ | refine wk_cond ?_ | refine wk_ret ?_ | refine wk_nil ?_ | refine wo_dst rfl (opR_call ?_) | refine wo_nodst (opR_call ?_) | refine wo_dst rfl (opR_pick ?_) | refine wo_guard rfl rfl ?_ | refine wo_guardn rfl ?_ | refine wo_dst rfl (opR_pure ?_) | refine wo_nodst (opR_pure ?_)
    | refine give_ret ?_ | refine give_end ?_)
  refine (compare_w [1] q 0 tq _ _ _ (onei_in (by first | omega | (simp only [next_new, next_set]; omega)) (by simp (disch := first | assumption | omega) only [push_cast, ↓reduceIte, reduceIte, Nat.reduceEqDiff, Nat.reduceAdd, Nat.reduceSub, Nat.reduceMul, Nat.reduceBEq, Int.reduceNeg, k6, k5, k4])) (SlIn.gr hiq (by (repeat (first | exact Gr.refl _ | assumption | (refine Gr.trans ?_ (by assumption)) | refine Gr.set ?_ (by first | exact Nat.le_refl _ | omega | (simp only [next_new, next_set]; omega)) _ | refine Gr.new ?_ _)))) (okC_sl _ _ _) (okC_sl _ _ _) (by simp) (by have := okq.2.1; omega)).mono ?_
  rintro _ h7 ⟨rfl, g7⟩; have n7 := g7.1; have k7 := g7.2; try simp only [next_new, next_set] at n7 k7
  rw [if_neg (fun hh => hh (placeE_ok.2 okone)), if_neg (fun hh => hh (placeE_ok.2 okq)), hO, hz2]
  repeat' (first
    | ((with_reducible first | refine optP_id ?_ | refine condP_id ?_ | refine condO_id ?_ | refine resP_id ?_ | refine callT_of ?_); conv => { arg 1; simp (disch := first | assumption | omega) only [push_cast, ↓reduceIte, reduceIte, Nat.reduceEqDiff, Nat.reduceAdd, Nat.reduceSub, Nat.reduceMul, Nat.reduceBEq, Int.reduceNeg, k1, k2, k3, k4, k5, k6, k7] }; first | ((with_reducible refine optP_id ?_); refine optP_some ?_) | ((with_reducible refine condP_id ?_); first | refine qcy ?_ | refine qcx ?_ | refine qco ?_ | refine condP_decn (fun hc => ?_) (fun hc => ?_) | refine condP_dec (fun hc => ?_) (fun hc => ?_) | refine qct ?_ | refine qcf ?_ | refine condP_bool (fun hc => ?_) (fun hc => ?_)) | ((with_reducible refine condO_id ?_); refine condO_some ?_) | ((with_reducible refine resP_id ?_); refine resP_one ?_) | ((with_reducible refine callT_to ?_); refine callP_plain ?_))
    | refine wk_seq ?_ | refine wk_region ?_ | refine wk_skip ?_ | refine wo_nil ?_ | refine wk_cond ?_ | refine wk_ret ?_ | refine wk_nil ?_ | refine wo_dst rfl (opR_call ?_) | refine wo_nodst (opR_call ?_) | refine wo_dst rfl (opR_pick ?_) | refine wo_guard rfl rfl ?_ | refine wo_guardn rfl ?_ | refine wo_dst rfl (opR_pure ?_) | refine wo_nodst (opR_pure ?_)
    | refine give_ret ?_ | refine give_end ?_)
  refine (compare_w d d2 sh sh2 _ _ _ (SlIn.gr hid (by (repeat (first | exact Gr.refl _ | assumption | (refine Gr.trans ?_ (by assumption)) | refine Gr.set ?_ (by first | exact Nat.le_refl _ | omega | (simp only [next_new, next_set]; omega)) _ | refine Gr.new ?_ _)))) (SlIn.gr hid2 (by (repeat (first | exact Gr.refl _ | assumption | (refine Gr.trans ?_ (by assumption)) | refine Gr.set ?_ (by first | exact Nat.le_refl _ | omega | (simp only [next_new, next_set]; omega)) _ | refine Gr.new ?_ _)))) (okC_sl _ _ _) (okC_sl _ _ _) (by omega) (by omega)).mono ?_
  rintro _ h8 ⟨rfl, g8⟩; have n8 := g8.1; have k8 := g8.2; try simp only [next_new, next_set] at n8 k8
  rw [if_neg (fun hh => hh (placeE_ok.2 hok)), if_neg (fun hh => hh (placeE_ok.2 hok2)), hz3]
  clear hz1 hz2 hz3
  rcases hz with rfl | rfl
  · repeat' (first
    | ((with_reducible first | refine optP_id ?_ | refine condP_id ?_ | refine condO_id ?_ | refine resP_id ?_ | refine callT_of ?_); conv => { arg 1; simp (disch := first | assumption | omega) only [push_cast, ↓reduceIte, reduceIte, Nat.reduceEqDiff, Nat.reduceAdd, Nat.reduceSub, Nat.reduceMul, Nat.reduceBEq, Int.reduceNeg, k8] }; first | ((with_reducible refine optP_id ?_); refine optP_some ?_) | ((with_reducible refine condP_id ?_); first | refine qcy ?_ | refine qcx ?_ | refine qco ?_ | refine condP_decn (fun hc => ?_) (fun hc => ?_) | refine condP_dec (fun hc => ?_) (fun hc => ?_) | refine qct ?_ | refine qcf ?_ | refine condP_bool (fun hc => ?_) (fun hc => ?_)) | ((with_reducible refine condO_id ?_); refine condO_some ?_) | ((with_reducible refine resP_id ?_); refine resP_one ?_) | ((with_reducible refine callT_to ?_); refine callP_plain ?_))
    | refine wk_seq ?_ | refine wk_region ?_ | refine wk_skip ?_ | refine wo_nil ?_ | refine wk_cond ?_ | refine wk_ret ?_ | refine wk_nil ?_ | refine wo_dst rfl (opR_call ?_) | refine wo_nodst (opR_call ?_) | refine wo_dst rfl (opR_pick ?_) | refine wo_guard rfl rfl ?_ | refine wo_guardn rfl ?_ | refine wo_dst rfl (opR_pure ?_) | refine wo_nodst (opR_pure ?_)
    | (refine wc_known rfl ?_)
    | refine give_ret ?_ | refine give_end ?_)
    rfl
  · repeat' (first
    | ((with_reducible first | refine optP_id ?_ | refine condP_id ?_ | refine condO_id ?_ | refine resP_id ?_ | refine callT_of ?_); conv => { arg 1; simp (disch := first | assumption | omega) only [push_cast, ↓reduceIte, reduceIte, Nat.reduceEqDiff, Nat.reduceAdd, Nat.reduceSub, Nat.reduceMul, Nat.reduceBEq, Int.reduceNeg, k8] }; first | ((with_reducible refine optP_id ?_); refine optP_some ?_) | ((with_reducible refine condP_id ?_); first | refine qcy ?_ | refine qcx ?_ | refine qco ?_ | refine condP_decn (fun hc => ?_) (fun hc => ?_) | refine condP_dec (fun hc => ?_) (fun hc => ?_) | refine qct ?_ | refine qcf ?_ | refine condP_bool (fun hc => ?_) (fun hc => ?_)) | ((with_reducible refine condO_id ?_); refine condO_some ?_) | ((with_reducible refine resP_id ?_); refine resP_one ?_) | ((with_reducible refine callT_to ?_); refine callP_plain ?_))
    | refine wk_seq ?_ | refine wk_region ?_ | refine wk_skip ?_ | refine wo_nil ?_ | refine wk_cond ?_ | refine wk_ret ?_ | refine wk_nil ?_ | refine wo_dst rfl (opR_call ?_) | refine wo_nodst (opR_call ?_) | refine wo_dst rfl (opR_pick ?_) | refine wo_guard rfl rfl ?_ | refine wo_guardn rfl ?_ | refine wo_dst rfl (opR_pure ?_) | refine wo_nodst (opR_pure ?_)
    | (refine wc_known rfl ?_)
    | refine give_ret ?_ | refine give_end ?_)
    rfl
end Go.Proofs.YtelepfablohdmaaGreatDoor
