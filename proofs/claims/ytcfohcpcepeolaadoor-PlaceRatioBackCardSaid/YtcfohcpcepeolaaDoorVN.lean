/- The walk of the law PlaceRatioBack. -/
import Derived.Test.YtcfohcpcepeolaaDoorVM
import Derived.Test.YtcfohcpcepeolaaDoorVL
set_option linter.unusedSimpArgs false
set_option linter.unusedVariables false
/- The law's ratios. -/
namespace Go.Proofs.YtcfohcpcepeolaaDoor
open Go.Ev
def denL : List Int := [1, 2, 3, 4, 5, 6, 8, 9, 10, 12, 15, 20, 24, 25, 27, 30, 36, 40, 50, 54, 60, 75, 100, 120, 150, 200, 225, 270, 360, 540, 600, 675, 1080, 1350, 1800, 2700, 5400]
theorem bs22_37 : buildSliceA Tryd.prog 22 37 [(0, .int .i64 1), (1, .int .i64 2), (2, .int .i64 3), (3, .int .i64 4), (4, .int .i64 5), (5, .int .i64 6), (6, .int .i64 8), (7, .int .i64 9), (8, .int .i64 10), (9, .int .i64 12), (10, .int .i64 15), (11, .int .i64 20), (12, .int .i64 24), (13, .int .i64 25), (14, .int .i64 27), (15, .int .i64 30), (16, .int .i64 36), (17, .int .i64 40), (18, .int .i64 50), (19, .int .i64 54), (20, .int .i64 60), (21, .int .i64 75), (22, .int .i64 100), (23, .int .i64 120), (24, .int .i64 150), (25, .int .i64 200), (26, .int .i64 225), (27, .int .i64 270), (28, .int .i64 360), (29, .int .i64 540), (30, .int .i64 600), (31, .int .i64 675), (32, .int .i64 1080), (33, .int .i64 1350), (34, .int .i64 1800), (35, .int .i64 2700), (36, .int .i64 5400)] = some (.cells (ints .i64 denL) 3 true, fun b => .slice (some ⟨b, 0, none⟩) 37 (EX + 37)) := by kernel_rfl
theorem den_ok : ∀ x ∈ denL, 1 ≤ x ∧ x.toNat ∣ 5400 := by decide
theorem den_at {i : Nat} (h : i < 37) : ∃ D : Nat, 1 ≤ D ∧ D ∣ 5400 ∧ at? (ints .i64 denL) i = some (.int .i64 (D : Int)) := by
  have hl : i < denL.length := h
  have h1 := den_ok _ (List.getElem_mem hl)
  exact ⟨(denL[i]).toNat, by omega, h1.2, by rw [Int.toNat_of_nonneg (by omega)]; exact ints_at .i64 hl⟩
set_option maxRecDepth 100000 in
set_option maxHeartbeats 8000000 in
theorem lratio_w (x0 x1 : Int) (h : AHeap) :
    Wc pr (.func 38) [.agg #[.int .i64 x0, .int .i64 x1]] h fun r h' => (∃ N D : Nat, r = .tuple #[.agg #[.int .i64 (N : Int), .int .i64 (D : Int)], .bool true] ∧ IsR (N : Int) (D : Int) ∧ N ≤ 1000000 ∧ D ∣ 5400) ∧ Gr h h' := by
  have hfx : allFlat [Value.int .i64 x0, .int .i64 x1] = true := rfl
  have hcx : takeN 2 [Value.int .i64 x0, .int .i64 x1] = some [Value.int .i64 x0, .int .i64 x1] := rfl
  have a0 : at? [Value.int .i64 x0, .int .i64 x1] 0 = some (.int .i64 x0) := rfl
  have a1 : at? [Value.int .i64 x0, .int .i64 x1] 1 = some (.int .i64 x1) := rfl
  have b0 := Int.emod_nonneg x0 (b := 1000001) (by omega)
  have b1 := Int.emod_lt_of_pos x0 (b := 1000001) (by omega)
  have b2 := Int.emod_nonneg x1 (b := 37) (by omega)
  have b3 := Int.emod_lt_of_pos x1 (b := 37) (by omega)
  refine wc_func Tryd.func38 rfl rfl rfl rfl ?_
  generalize [Value.int .i64 x0, .int .i64 x1] = CX at *
  repeat' (first
    | ((with_reducible first | refine optP_id ?_ | refine resP_id ?_ | refine callT_of ?_); conv => { arg 1; simp (disch := first | assumption | omega) only [push_cast, ↓reduceIte, reduceIte, Nat.reduceEqDiff, Nat.reduceAdd, Nat.reduceSub, Nat.reduceMul, Nat.reduceBEq, Int.reduceNeg, hfx, hcx, a0, a1, bs22_37, Nat.zero_add, Nat.mul_one] }; first | ((with_reducible refine optP_id ?_); refine optP_some ?_) | ((with_reducible refine resP_id ?_); first | refine resP_one ?_ | refine resP_two ?_ | refine resP_three ?_ | refine resP_four ?_ | refine resP_zero ?_) | ((with_reducible refine callT_to ?_); first | refine callP_plain ?_ | refine callP_yield ?_ | (refine callP_func ?_; conv => { arg 3; simp only [push_cast] })))
    | refine wk_seq ?_ | refine wk_region ?_ | refine wk_draw (by kernel_rfl) (by decide +kernel) ?_ | refine wk_drawn [(5, 2), (7, 2)] (by kernel_rfl) (by decide +kernel) ?_ | refine wo_nil ?_ | refine wk_ret ?_ | refine wk_nil ?_ | refine wo_dst rfl (opR_call ?_) | refine wo_nodst (opR_call ?_) | refine wo_dst rfl (opR_pure ?_) | refine wo_nodst (opR_pure ?_)
    | refine wd_dst rfl (opR_call ?_) | refine wd_nodst (opR_call ?_) | refine wd_dst rfl (opR_pick ?_) | refine wd_guard rfl rfl ?_ | refine wd_guardn rfl ?_ | refine wd_dst rfl (opR_pure ?_) | refine wd_nodst (opR_pure ?_) | refine opR_call ?_ | refine opR_pick ?_ | refine opR_pure ?_ | (refine wd_nil ?_; refine doneD rfl rfl ?_ ?_) | refine again_nil | refine again_cons ?_ ?_ | refine again_plain rfl rfl rfl ?_ | refine again_guard rfl rfl rfl rfl ?_ | exact same_undef | exact same_of rfl rfl | refine give_ret ?_ | refine give_end ?_)
  refine (bring_w x0 1000001 (by omega) (by omega) _).mono ?_
  rintro _ _ ⟨rfl, rfl⟩
  obtain ⟨n, hn⟩ : ∃ n : Nat, x0 % 1000001 = (n : Int) := ⟨(x0 % 1000001).toNat, by omega⟩
  obtain ⟨i, hi⟩ : ∃ i : Nat, x1 % 37 = (i : Int) := ⟨(x1 % 37).toNat, by omega⟩
  rw [hn]
  repeat' (first
    | ((with_reducible first | refine optP_id ?_ | refine resP_id ?_ | refine callT_of ?_); conv => { arg 1; simp (disch := first | assumption | omega) only [push_cast, ↓reduceIte, reduceIte, Nat.reduceEqDiff, Nat.reduceAdd, Nat.reduceSub, Nat.reduceMul, Nat.reduceBEq, Int.reduceNeg, hfx, hcx, a0, a1, bs22_37, Nat.zero_add, Nat.mul_one] }; first | ((with_reducible refine optP_id ?_); refine optP_some ?_) | ((with_reducible refine resP_id ?_); first | refine resP_one ?_ | refine resP_two ?_ | refine resP_three ?_ | refine resP_four ?_ | refine resP_zero ?_) | ((with_reducible refine callT_to ?_); first | refine callP_plain ?_ | refine callP_yield ?_ | (refine callP_func ?_; conv => { arg 3; simp only [push_cast] })))
    | refine wk_seq ?_ | refine wk_region ?_ | refine wk_draw (by kernel_rfl) (by decide +kernel) ?_ | refine wk_drawn [(5, 2), (7, 2)] (by kernel_rfl) (by decide +kernel) ?_ | refine wo_nil ?_ | refine wk_ret ?_ | refine wk_nil ?_ | refine wo_dst rfl (opR_call ?_) | refine wo_nodst (opR_call ?_) | refine wo_dst rfl (opR_pure ?_) | refine wo_nodst (opR_pure ?_)
    | refine wd_dst rfl (opR_call ?_) | refine wd_nodst (opR_call ?_) | refine wd_dst rfl (opR_pick ?_) | refine wd_guard rfl rfl ?_ | refine wd_guardn rfl ?_ | refine wd_dst rfl (opR_pure ?_) | refine wd_nodst (opR_pure ?_) | refine opR_call ?_ | refine opR_pick ?_ | refine opR_pure ?_ | (refine wd_nil ?_; refine doneD rfl rfl ?_ ?_) | refine again_nil | refine again_cons ?_ ?_ | refine again_plain rfl rfl rfl ?_ | refine again_guard rfl rfl rfl rfl ?_ | exact same_undef | exact same_of rfl rfl | refine give_ret ?_ | refine give_end ?_)
  refine (bring_w x1 37 (by omega) (by omega) _).mono ?_
  rintro _ _ ⟨rfl, rfl⟩
  rw [hi]
  obtain ⟨D, hD1, hD2, hat⟩ := den_at (show i < 37 by omega)
  have i37 : i < 37 := by omega
  have hDle : D ≤ 5400 := Nat.le_of_dvd (by decide) hD2
  generalize ints .i64 denL = CD at *
  repeat' (first
    | ((with_reducible first | refine optP_id ?_ | refine resP_id ?_ | refine callT_of ?_); conv => { arg 1; simp (disch := first | assumption | omega) only [push_cast, ↓reduceIte, reduceIte, Nat.reduceEqDiff, Nat.reduceAdd, Nat.reduceSub, Nat.reduceMul, Nat.reduceBEq, Int.reduceNeg, hfx, hcx, a0, a1, hat, Nat.zero_add, Nat.mul_one] }; first | ((with_reducible refine optP_id ?_); refine optP_some ?_) | ((with_reducible refine resP_id ?_); first | refine resP_one ?_ | refine resP_two ?_ | refine resP_three ?_ | refine resP_four ?_ | refine resP_zero ?_) | ((with_reducible refine callT_to ?_); first | refine callP_plain ?_ | refine callP_yield ?_ | (refine callP_func ?_; conv => { arg 3; simp only [push_cast] })))
    | refine wk_seq ?_ | refine wk_region ?_ | refine wk_draw (by kernel_rfl) (by decide +kernel) ?_ | refine wk_drawn [(5, 2), (7, 2)] (by kernel_rfl) (by decide +kernel) ?_ | refine wo_nil ?_ | refine wk_ret ?_ | refine wk_nil ?_ | refine wo_dst rfl (opR_call ?_) | refine wo_nodst (opR_call ?_) | refine wo_dst rfl (opR_pure ?_) | refine wo_nodst (opR_pure ?_)
    | refine wd_dst rfl (opR_call ?_) | refine wd_nodst (opR_call ?_) | refine wd_dst rfl (opR_pick ?_) | refine wd_guard rfl rfl ?_ | refine wd_guardn rfl ?_ | refine wd_dst rfl (opR_pure ?_) | refine wd_nodst (opR_pure ?_) | refine opR_call ?_ | refine opR_pick ?_ | refine opR_pure ?_ | (refine wd_nil ?_; refine doneD rfl rfl ?_ ?_) | refine again_nil | refine again_cons ?_ ?_ | refine again_plain rfl rfl rfl ?_ | refine again_guard rfl rfl rfl rfl ?_ | exact same_undef | exact same_of rfl rfl | refine give_ret ?_ | refine give_end ?_)
  refine (mratio_w (n : Int) (D : Int) (by omega) (by omega) (by omega) (by omega) _).mono ?_
  rintro _ h1 ⟨rfl, g1⟩; have n1 := g1.1; have k1 := g1.2; try simp only [next_new, next_set] at n1 k1
  have hg : 0 < n.gcd D := Nat.gcd_pos_of_pos_right n (by omega)
  have q1 : n / n.gcd D ≤ n := Nat.div_le_self _ _
  have q2 : D / n.gcd D ≤ D := Nat.div_le_self _ _
  have q3 : D / n.gcd D ∣ 5400 := Nat.dvd_trans (Nat.div_dvd_of_dvd (Nat.gcd_dvd_right n D)) hD2
  have q4 : 0 < D / n.gcd D := Nat.div_pos (Nat.le_of_dvd (by omega) (Nat.gcd_dvd_right n D)) hg
  have q5 : (n / n.gcd D).gcd (D / n.gcd D) = 1 := Nat.coprime_div_gcd_div_gcd hg
  have hR : ratF (n : Int) (D : Int) = (((n / n.gcd D : Nat) : Int), ((D / n.gcd D : Nat) : Int), 0) := by
    rw [ratF_nat (by omega), mkR, if_neg (by omega), if_neg (by omega)]
    rfl
  rw [hR]
  clear hR
  generalize n / n.gcd D = N at *
  generalize D / n.gcd D = E at *
  have hIs : IsR (N : Int) (E : Int) := ⟨by omega, by omega, by omega, by simpa using q5⟩
  repeat' (first
    | ((with_reducible first | refine optP_id ?_ | refine resP_id ?_ | refine callT_of ?_); conv => { arg 1; simp (disch := first | assumption | omega) only [push_cast, ↓reduceIte, reduceIte, Nat.reduceEqDiff, Nat.reduceAdd, Nat.reduceSub, Nat.reduceMul, Nat.reduceBEq, Int.reduceNeg, k1, hfx, hcx, a0, a1, hat, Nat.zero_add, Nat.mul_one] }; first | ((with_reducible refine optP_id ?_); refine optP_some ?_) | ((with_reducible refine resP_id ?_); first | refine resP_one ?_ | refine resP_two ?_ | refine resP_three ?_ | refine resP_four ?_ | refine resP_zero ?_) | ((with_reducible refine callT_to ?_); first | refine callP_plain ?_ | refine callP_yield ?_ | (refine callP_func ?_; conv => { arg 3; simp only [push_cast] })))
    | refine wk_seq ?_ | refine wk_region ?_ | refine wk_draw (by kernel_rfl) (by decide +kernel) ?_ | refine wk_drawn [(5, 2), (7, 2)] (by kernel_rfl) (by decide +kernel) ?_ | refine wo_nil ?_ | refine wk_ret ?_ | refine wk_nil ?_ | refine wo_dst rfl (opR_call ?_) | refine wo_nodst (opR_call ?_) | refine wo_dst rfl (opR_pure ?_) | refine wo_nodst (opR_pure ?_)
    | refine wd_dst rfl (opR_call ?_) | refine wd_nodst (opR_call ?_) | refine wd_dst rfl (opR_pick ?_) | refine wd_guard rfl rfl ?_ | refine wd_guardn rfl ?_ | refine wd_dst rfl (opR_pure ?_) | refine wd_nodst (opR_pure ?_) | refine opR_call ?_ | refine opR_pick ?_ | refine opR_pure ?_ | (refine wd_nil ?_; refine doneD rfl rfl ?_ ?_) | refine again_nil | refine again_cons ?_ ?_ | refine again_plain rfl rfl rfl ?_ | refine again_guard rfl rfl rfl rfl ?_ | exact same_undef | exact same_of rfl rfl | refine give_ret ?_ | refine give_end ?_)
  exact ⟨⟨N, E, rfl, hIs, by omega, q3⟩, by (repeat (first | exact Gr.refl _ | assumption | (refine Gr.trans ?_ (by assumption)) | refine Gr.set ?_ (by first | exact Nat.le_refl _ | omega | (simp only [next_new, next_set]; omega)) _ | refine Gr.new ?_ _))⟩
end Go.Proofs.YtcfohcpcepeolaaDoor
/- Place-value numbers of ratios: what they stand for. -/
namespace Go.Proofs.YtcfohcpcepeolaaDoor
open Go.Ev
/-- a call's place-value number that stands for U units, with few digits behind the point -/
def plU (U : Nat) (r : Value) (H : AHeap) : Prop := ∃ l s v, r = .tuple #[.agg #[v, .int .i64 s], .int .i64 0] ∧ okP l s ∧ IIn H v l ∧ okC v = true ∧ unitN l s = U ∧ -3 ≤ s
theorem okC_in {H : AHeap} {v : Value} {l : List Int} (h : IIn H v l) (hn : l ≠ []) : okC v = true := by
  obtain ⟨a, c, rfl, _, hv⟩ := h
  obtain ⟨b, off, all, rw', rfl, _⟩ := hv hn
  rfl
theorem nil_in (H : AHeap) : IIn H (.slice none 0 0) [] := ⟨none, 0, rfl, Nat.zero_le _, fun h => absurd rfl h⟩
theorem okP_nil : okP [] 0 := ⟨valid_nil, by decide, by decide, by decide, fun _ => rfl⟩
theorem unit_nil : unitN [] 0 = 0 := by rw [unitN, valN, Nat.zero_mul]
/-- what place returns, for a number of which enough is a factor -/
theorem plU_of {X : Nat} {w : Nat} {r : Value} {H : AHeap} (hw : 61 ≤ w) (hw2 : w ≤ 64) (hp : placeR X (-(64 - (w : Int))) r H ∨ placeR X ((w : Int) - 64) r H) (hX : X * 60 ^ w < 60 ^ 68) : plU (X * 60 ^ w) r H := by
  have e0 : -(64 - (w : Int)) = (w : Int) - 64 := by omega
  rw [e0] at hp
  have hp : placeR X ((w : Int) - 64) r H := hp.elim id id
  rcases hp with ⟨h0, rfl⟩ | ⟨h0, l, e, v, hl, hn, hv, _, hr⟩
  · exact ⟨[], 0, _, rfl, okP_nil, nil_in H, rfl, by rw [unit_nil, h0, Nat.zero_mul], by omega⟩
  · have hval : valN l * 60 ^ (e + w) = X * 60 ^ w := by rw [Nat.pow_add, ← Nat.mul_assoc, hv]
    have hlen := place_len hl hn hval hX
    have hpos := List.length_pos_iff.2 hn
    have hz := placeE_zero (s := (w : Int) - 64 + (e : Int)) hl hn (by omega) (by omega)
    have hz0 := hz.1 (by omega)
    rcases hr with ⟨hE, rfl, hin⟩ | ⟨hE, _⟩
    · refine ⟨l, (w : Int) - 64 + (e : Int), v, rfl, placeE_ok.1 hE, hin, okC_in hin hn, ?_, by omega⟩
      rw [unitN, ← hval]
      congr 2
      omega
    · exact absurd hz0 hE
theorem plU_sum {X : Nat} {r : Value} {H : AHeap} (hp : placeR X (-64) r H) (hd : 60 ^ 61 ∣ X) (hX : X < 60 ^ 68) : plU X r H := by
  rcases hp with ⟨h0, rfl⟩ | ⟨h0, l, e, v, hl, hn, hv, _, hr⟩
  · exact ⟨[], 0, _, rfl, okP_nil, nil_in H, rfl, by rw [unit_nil, h0], by omega⟩
  · have hlen := place_len hl hn hv hX
    have hpos := List.length_pos_iff.2 hn
    have he := shift_ge hv (valN_mod hl hn) hd
    have hz := placeE_zero (s := -64 + (e : Int)) hl hn (by omega) (by omega)
    have hz0 := hz.1 (by omega)
    rcases hr with ⟨hE, rfl, hin⟩ | ⟨hE, _⟩
    · refine ⟨l, -64 + (e : Int), v, rfl, placeE_ok.1 hE, hin, okC_in hin hn, ?_, by omega⟩
      rw [unitN, ← hv]
      congr 2
      omega
    · exact absurd hz0 hE
/-- the place-value number of a ratio of the law -/
theorem fr_good {N D : Nat} {r : Value} {H : AHeap} (hi : IsR (N : Int) (D : Int)) (hN : N ≤ 1000000) (hD : D ∣ 5400) (h : frR (N : Int) (D : Int) r H) : ∃ U, plU U r H ∧ U * D = N * 60 ^ 64 ∧ 60 ^ 61 ∣ U ∧ U ≤ 1000000 * 60 ^ 64 := by
  have hdv : D ∣ 2 ^ 3 * 3 ^ 3 * 5 ^ 2 := hD
  have hD1 : 1 ≤ D := by have := hi.1; omega
  rcases h with ⟨h, _⟩ | ⟨_, h | ⟨a, b, c, hE, _, hp⟩⟩
  · exact absurd ⟨hi, by omega⟩ h
  · obtain ⟨⟨R, r1, r2, r3, r5, rd⟩, _⟩ := h
    rw [Int.toNat_natCast] at rd
    exact absurd (only_one r2 r3 r5 (Nat.dvd_trans rd hdv)) r1
  · rw [Int.toNat_natCast] at hE
    rw [Int.toNat_natCast] at hp
    have d2 : a ≤ 3 := dvd_two (Nat.dvd_trans ⟨3 ^ b * 5 ^ c, by rw [hE, Nat.mul_assoc]⟩ hdv)
    have d3 : b ≤ 3 := dvd_three (Nat.dvd_trans ⟨2 ^ a * 5 ^ c, by rw [hE]; grind⟩ hdv)
    have d5 : c ≤ 2 := dvd_five (Nat.dvd_trans ⟨2 ^ a * 3 ^ b, by rw [hE]; grind⟩ hdv)
    have hex : exE a b c ≤ 3 := by unfold exE; omega
    have hmul := inv60_mul a b c
    rw [← hE] at hmul
    have hle := inv60_le a b c
    generalize inv60 a b c = Y at *
    generalize exE a b c = ex at *
    have h3 : 60 ^ ex ≤ 60 ^ 3 := Nat.pow_le_pow_right (by decide) hex
    obtain ⟨w, hw⟩ : ∃ w, w = 64 - ex := ⟨_, rfl⟩
    have h64 : 60 ^ ex * 60 ^ w = 60 ^ 64 := by rw [← Nat.pow_add]; congr 1; omega
    have hU : N * Y * 60 ^ w * D = N * 60 ^ 64 := by
      rw [← h64, ← hmul]
      generalize 60 ^ w = A
      grind
    have hUle : N * Y * 60 ^ w ≤ 1000000 * 60 ^ 64 := by
      have h1 : N * Y * 60 ^ w ≤ N * Y * 60 ^ w * D := Nat.le_mul_of_pos_right _ hD1
      rw [hU] at h1
      exact Nat.le_trans h1 (Nat.mul_le_mul_right _ hN)
    have hXl : N * Y * 60 ^ w < 60 ^ 68 := Nat.lt_of_le_of_lt hUle (by decide +kernel)
    refine ⟨N * Y * 60 ^ w, plU_of (by omega) (by omega) (.inl ?_) hXl, hU, ?_, hUle⟩
    · rw [show (64 - (w : Int)) = (ex : Int) by omega]
      exact hp
    · obtain ⟨y, rfl⟩ : ∃ y, w = 61 + y := ⟨w - 61, by omega⟩
      rw [Nat.pow_add]
      exact ⟨N * Y * 60 ^ y, by generalize 60 ^ 61 = K; grind⟩
/-- a place-value number that is read as a ratio -/
theorem rat_good {l : List Int} {s : Int} {U : Nat} (ok : okP l s) (hs : -3 ≤ s) (hU : unitN l s = U) (hle : U ≤ 2000000 * 60 ^ 64) : ∃ t b : Nat, ratP l s = mkR false t b ∧ 1 ≤ b ∧ b ≤ 216000 ∧ t ≤ 1099511627776 ∧ t * 60 ^ 64 = U * b := by
  have h0 := placeE_ok.2 ok
  obtain ⟨k, hk⟩ : ∃ k, k = (-s).toNat := ⟨_, rfl⟩
  obtain ⟨z, hz⟩ : ∃ z, z = s.toNat := ⟨_, rfl⟩
  obtain ⟨y, hy⟩ : ∃ y, y = (s + 64).toNat := ⟨_, rfl⟩
  have hk3 : k ≤ 3 := by omega
  have h3 : 60 ^ k ≤ 60 ^ 3 := Nat.pow_le_pow_right (by decide) hk3
  have e3 : (60 : Nat) ^ 3 = 216000 := by decide
  obtain ⟨t, b, hr, hb⟩ := rr_some (k := k) (t := valN l * 60 ^ z) (b := 1) (Nat.le_refl _) (by omega)
  obtain ⟨q1, q2, _, _⟩ := rr_spec (Nat.le_refl _) hr
  have hb2 : b ≤ 216000 := by omega
  rw [Nat.one_mul] at q1
  have hUk : U * 60 ^ k = valN l * 60 ^ z * 60 ^ 64 := by
    rw [← hU, unitN, ← hy, Nat.mul_assoc, Nat.mul_assoc, ← Nat.pow_add, ← Nat.pow_add, show y + k = z + 64 by omega]
  have hcr : t * 60 ^ 64 = U * b := by
    refine Nat.eq_of_mul_eq_mul_right (pow60_pos k) ?_
    have a1 : t * 60 ^ 64 * 60 ^ k = (t * 60 ^ k) * 60 ^ 64 := by
      generalize 60 ^ 64 = K
      generalize 60 ^ k = A
      grind
    have a2 : U * b * 60 ^ k = (U * 60 ^ k) * b := by
      generalize 60 ^ k = A
      grind
    rw [a1, a2, q1, hUk]
    generalize 60 ^ 64 = K
    generalize valN l * 60 ^ z = A
    grind
  have ht : t ≤ 1099511627776 := by
    have h1 : U * b ≤ 2000000 * 60 ^ 64 * 216000 := Nat.mul_le_mul hle hb2
    rw [← hcr] at h1
    have h2 : t * 60 ^ 64 ≤ (2000000 * 216000) * 60 ^ 64 := by
      refine Nat.le_trans h1 ?_
      rw [Nat.mul_right_comm]
      exact Nat.le_refl _
    have := Nat.le_of_mul_le_mul_right h2 (pow60_pos 64)
    omega
  refine ⟨t, b, ?_, q2, hb2, ht, hcr⟩
  rw [ratP, if_neg (fun hh => hh h0), ← hk, ← hz, hr, outP, if_pos ht, ratF_nat (by omega)]
theorem sgn_cmp {U V N D M E : Nat} (h1 : IsR (N : Int) (D : Int)) (h2 : IsR (M : Int) (E : Int)) (hU : U * D = N * 60 ^ 64) (hV : V * E = M * 60 ^ 64) : cmpF (N : Int) (D : Int) (M : Int) (E : Int) = (sgnN U V, 0) := by
  have hD : 0 < D := by have := h1.1; omega
  have hE : 0 < E := by have := h2.1; omega
  have l1 := back_lt hD hE hU hV
  have l2 := back_lt hE hD hV hU
  rw [cmpF, if_pos ⟨h1, h2⟩, sgnN]
  have c1 : (N : Int) * (E : Int) = ((N * E : Nat) : Int) := by rw [Int.natCast_mul]
  have c2 : (M : Int) * (D : Int) = ((M * D : Nat) : Int) := by rw [Int.natCast_mul]
  rw [c1, c2]
  by_cases h : N * E < M * D
  · rw [if_pos (by omega), if_pos (l1.2 h)]
  · rw [if_neg (by omega), if_neg (fun hh => h (l1.1 hh))]
    by_cases h' : M * D < N * E
    · rw [if_pos (by omega), if_pos (l2.2 h')]
    · rw [if_neg (by omega), if_neg (fun hh => h' (l2.1 hh))]
/-- the sum's ratio -/
theorem sum_same {U V N D M E t b : Nat} (h1 : IsR (N : Int) (D : Int)) (h2 : IsR (M : Int) (E : Int)) (hU : U * D = N * 60 ^ 64) (hV : V * E = M * 60 ^ 64) (hb : 1 ≤ b) (hb2 : b ≤ 216000) (ht : t ≤ 1099511627776) (e : t * 60 ^ 64 = (U + V) * b) : ∃ P Q : Nat, mkR false t b = ((P : Int), (Q : Int), 0) ∧ addF (N : Int) (D : Int) (M : Int) (E : Int) = ((P : Int), (Q : Int), 0) := by
  have hD : 0 < D := by have := h1.1; omega
  have hE : 0 < E := by have := h2.1; omega
  have e2 := back_sum hU hV e
  have hDE : D * E ≠ 0 := Nat.pos_iff_ne_zero.1 (Nat.mul_pos hD hE)
  obtain ⟨P, Q, m1, m2, _, _⟩ := mk_eq (by omega) hDE e2 ht (by omega)
  refine ⟨P, Q, m1, ?_⟩
  rw [addF, calcF, if_pos ⟨h1, h2⟩]
  have c1 : (N : Int) * (E : Int) + (M : Int) * (D : Int) = ((N * E + M * D : Nat) : Int) := by rw [Int.natCast_add, Int.natCast_mul, Int.natCast_mul]
  have c2 : (D : Int) * (E : Int) = ((D * E : Nat) : Int) := by rw [Int.natCast_mul]
  rw [c1, c2, ratF_nat hDE, m2]
theorem one_same {U N D t b : Nat} (h1 : IsR (N : Int) (D : Int)) (hU : U * D = N * 60 ^ 64) (hb : 1 ≤ b) (e : t * 60 ^ 64 = U * b) : mkR false t b = ((N : Int), (D : Int), 0) := by
  have q1 := h1.1
  have q2 := h1.2.1
  have q3 := h1.2.2.1
  have q4 := h1.2.2.2
  exact mk_of (by omega) (by omega) (by simpa using q4) (back_one hU e) (by omega) (by omega)
end Go.Proofs.YtcfohcpcepeolaaDoor
namespace Go.Proofs.YtcfohcpcepeolaaDoor
open Go.Ev
theorem bs59_2 (a b : Option Addr) (n c m d : Nat) (s t : Int) : buildSliceA Tryd.prog 59 2 [(0, .agg #[.slice a n c, .int .i64 s]), (1, .agg #[.slice b m d, .int .i64 t])] = some (.cells [.slice a n c, .int .i64 s, .slice b m d, .int .i64 t] 33 true, fun k => .slice (some ⟨k, 0, none⟩) 2 (EX + 2)) := by kernel_rfl
attribute [push_cast] bs59_2
theorem pin_two {H : AHeap} {b : Nat} {l m : List Int} {s t : Int} {v u : Value} (hb : b < H.next) (hg : H.get b = some (.cells [v, .int .i64 s, u, .int .i64 t] 33 true)) (hv : IIn H v l) (hu : IIn H u m) (ov : okC v = true) (ou : okC u = true) : PIn H (.slice (some ⟨b, 0, none⟩) 2 (EX + 2)) [(l, s), (m, t)] := by
  refine ⟨[(v, s), (u, t)], rfl, own_in (l := [(v, s), (u, t)]) encP_len (by rw [capLo_ex]; exact Nat.le_refl _) (fun _ => hb) (fun _ => ⟨true, hg⟩), fun i h1 h2 => ?_⟩
  match i, h1 with
  | 0, _ => exact ⟨rfl, hv, ov⟩
  | 1, _ => exact ⟨rfl, hu, ou⟩
theorem sumU_two (l m : List Int) (s t : Int) : sumU [(l, s), (m, t)] 2 = unitN l s + unitN m t := by simp [sumU]
theorem okl {l : List Int} {s : Int} (h : okP l s) : l.length ≤ 4611686018427387904 := by have := h.2.1; omega
set_option maxRecDepth 100000 in
set_option maxHeartbeats 16000000 in
theorem ratioback_w (x0 x1 y0 y1 : Int) (h : AHeap) :
    Wc pr (.func 12) [.agg #[.int .i64 x0, .int .i64 x1], .agg #[.int .i64 y0, .int .i64 y1]] h fun r h' => r = .bool true := by
  have hfx : allFlat [Value.int .i64 x0, .int .i64 x1] = true := rfl
  have hcx : takeN 2 [Value.int .i64 x0, .int .i64 x1] = some [Value.int .i64 x0, .int .i64 x1] := rfl
  have hfy : allFlat [Value.int .i64 y0, .int .i64 y1] = true := rfl
  have hcy : takeN 2 [Value.int .i64 y0, .int .i64 y1] = some [Value.int .i64 y0, .int .i64 y1] := rfl
  have wx := fun HH => lratio_w x0 x1 HH
  have wy := fun HH => lratio_w y0 y1 HH
  refine wc_func Tryd.func12 rfl rfl rfl rfl ?_
  generalize hCX : [Value.int .i64 x0, .int .i64 x1] = CX at *
  generalize hCY : [Value.int .i64 y0, .int .i64 y1] = CY at *
  repeat' (first
    | ((with_reducible first | refine optP_id ?_ | refine condP_id ?_ | refine condO_id ?_ | refine resP_id ?_ | refine callT_of ?_); conv => { arg 1; simp (disch := first | assumption | omega) only [push_cast, ↓reduceIte, reduceIte, Nat.reduceEqDiff, Nat.reduceAdd, Nat.reduceSub, Nat.reduceMul, Nat.reduceBEq, Int.reduceNeg, hfx, hcx, hfy, hcy] }; first | ((with_reducible refine optP_id ?_); refine optP_some ?_) | ((with_reducible refine condP_id ?_); first | refine condP_yes (by first | assumption | exact fun hn => hn (by assumption) | omega | decide) ?_ | refine condP_non (by assumption) ?_ | refine condP_no (by first | assumption | omega | decide) ?_ | refine condP_decn (fun hc => ?_) (fun hc => ?_) | refine condP_dec (fun hc => ?_) (fun hc => ?_) | refine condP_true (by first | with_reducible rfl | assumption | rfl) ?_ | refine condP_false (by first | with_reducible rfl | assumption | rfl) ?_ | refine condP_bool (fun hc => ?_) (fun hc => ?_)) | ((with_reducible refine condO_id ?_); refine condO_some ?_) | ((with_reducible refine resP_id ?_); first | refine resP_one ?_ | refine resP_two ?_ | refine resP_three ?_ | refine resP_four ?_ | refine resP_zero ?_) | ((with_reducible refine callT_to ?_); first | refine callP_plain ?_ | refine callP_yield ?_ | (refine callP_func ?_; conv => { arg 3; simp only [push_cast] })))
    | refine wk_seq ?_ | refine wk_region ?_ | refine wk_skip ?_ | refine wo_nil ?_ | refine wk_cond ?_ | refine wk_ret ?_ | refine wk_nil ?_ | refine wo_dst rfl (opR_call ?_) | refine wo_nodst (opR_call ?_) | refine wo_dst rfl (opR_pick ?_) | refine wo_guard rfl rfl ?_ | refine wo_guardn rfl ?_ | refine wo_dst rfl (opR_pure ?_) | refine wo_nodst (opR_pure ?_)
    | refine give_ret ?_ | refine give_end ?_)
  refine (wx _).mono ?_
  rintro _ h1 ⟨⟨N, D, rfl, iN, lN, dN⟩, g1⟩; have n1 := g1.1; have k1 := g1.2; try simp only [next_new, next_set] at n1 k1
  repeat' (first
    | ((with_reducible first | refine optP_id ?_ | refine condP_id ?_ | refine condO_id ?_ | refine resP_id ?_ | refine callT_of ?_); conv => { arg 1; simp (disch := first | assumption | omega) only [push_cast, ↓reduceIte, reduceIte, Nat.reduceEqDiff, Nat.reduceAdd, Nat.reduceSub, Nat.reduceMul, Nat.reduceBEq, Int.reduceNeg, k1, hfx, hcx, hfy, hcy] }; first | ((with_reducible refine optP_id ?_); refine optP_some ?_) | ((with_reducible refine condP_id ?_); first | refine condP_yes (by first | assumption | exact fun hn => hn (by assumption) | omega | decide) ?_ | refine condP_non (by assumption) ?_ | refine condP_no (by first | assumption | omega | decide) ?_ | refine condP_decn (fun hc => ?_) (fun hc => ?_) | refine condP_dec (fun hc => ?_) (fun hc => ?_) | refine condP_true (by first | with_reducible rfl | assumption | rfl) ?_ | refine condP_false (by first | with_reducible rfl | assumption | rfl) ?_ | refine condP_bool (fun hc => ?_) (fun hc => ?_)) | ((with_reducible refine condO_id ?_); refine condO_some ?_) | ((with_reducible refine resP_id ?_); first | refine resP_one ?_ | refine resP_two ?_ | refine resP_three ?_ | refine resP_four ?_ | refine resP_zero ?_) | ((with_reducible refine callT_to ?_); first | refine callP_plain ?_ | refine callP_yield ?_ | (refine callP_func ?_; conv => { arg 3; simp only [push_cast] })))
    | refine wk_seq ?_ | refine wk_region ?_ | refine wk_skip ?_ | refine wo_nil ?_ | refine wk_cond ?_ | refine wk_ret ?_ | refine wk_nil ?_ | refine wo_dst rfl (opR_call ?_) | refine wo_nodst (opR_call ?_) | refine wo_dst rfl (opR_pick ?_) | refine wo_guard rfl rfl ?_ | refine wo_guardn rfl ?_ | refine wo_dst rfl (opR_pure ?_) | refine wo_nodst (opR_pure ?_)
    | refine give_ret ?_ | refine give_end ?_)
  refine (wy _).mono ?_
  rintro _ h2 ⟨⟨M, E, rfl, iM, lM, dM⟩, g2⟩; have n2 := g2.1; have k2 := g2.2; try simp only [next_new, next_set] at n2 k2
  repeat' (first
    | ((with_reducible first | refine optP_id ?_ | refine condP_id ?_ | refine condO_id ?_ | refine resP_id ?_ | refine callT_of ?_); conv => { arg 1; simp (disch := first | assumption | omega) only [push_cast, ↓reduceIte, reduceIte, Nat.reduceEqDiff, Nat.reduceAdd, Nat.reduceSub, Nat.reduceMul, Nat.reduceBEq, Int.reduceNeg, k1, k2] }; first | ((with_reducible refine optP_id ?_); refine optP_some ?_) | ((with_reducible refine condP_id ?_); first | refine condP_yes (by first | assumption | exact fun hn => hn (by assumption) | omega | decide) ?_ | refine condP_non (by assumption) ?_ | refine condP_no (by first | assumption | omega | decide) ?_ | refine condP_decn (fun hc => ?_) (fun hc => ?_) | refine condP_dec (fun hc => ?_) (fun hc => ?_) | refine condP_true (by first | with_reducible rfl | assumption | rfl) ?_ | refine condP_false (by first | with_reducible rfl | assumption | rfl) ?_ | refine condP_bool (fun hc => ?_) (fun hc => ?_)) | ((with_reducible refine condO_id ?_); refine condO_some ?_) | ((with_reducible refine resP_id ?_); first | refine resP_one ?_ | refine resP_two ?_ | refine resP_three ?_ | refine resP_four ?_ | refine resP_zero ?_) | ((with_reducible refine callT_to ?_); first | refine callP_plain ?_ | refine callP_yield ?_ | (refine callP_func ?_; conv => { arg 3; simp only [push_cast] })))
    | refine wk_seq ?_ | refine wk_region ?_ | refine wk_skip ?_ | refine wo_nil ?_ | refine wk_cond ?_ | refine wk_ret ?_ | refine wk_nil ?_ | refine wo_dst rfl (opR_call ?_) | refine wo_nodst (opR_call ?_) | refine wo_dst rfl (opR_pick ?_) | refine wo_guard rfl rfl ?_ | refine wo_guardn rfl ?_ | refine wo_dst rfl (opR_pure ?_) | refine wo_nodst (opR_pure ?_)
    | refine give_ret ?_ | refine give_end ?_)
  refine (fromratio_w (N : Int) (D : Int) (by omega) (by omega) _).mono ?_
  rintro _ h3 ⟨hp, g3⟩; have n3 := g3.1; have k3 := g3.2; try simp only [next_new, next_set] at n3 k3
  obtain ⟨U, ⟨l, s, v, rfl, okp, inp, ocp, eU, sp⟩, hU, dU, leU⟩ := fr_good iN lN dN hp
  obtain ⟨av, cv, rfl, _⟩ := id inp
  repeat' (first
    | ((with_reducible first | refine optP_id ?_ | refine condP_id ?_ | refine condO_id ?_ | refine resP_id ?_ | refine callT_of ?_); conv => { arg 1; simp (disch := first | assumption | omega) only [push_cast, ↓reduceIte, reduceIte, Nat.reduceEqDiff, Nat.reduceAdd, Nat.reduceSub, Nat.reduceMul, Nat.reduceBEq, Int.reduceNeg, k1, k2, k3] }; first | ((with_reducible refine optP_id ?_); refine optP_some ?_) | ((with_reducible refine condP_id ?_); first | refine condP_yes (by first | assumption | exact fun hn => hn (by assumption) | omega | decide) ?_ | refine condP_non (by assumption) ?_ | refine condP_no (by first | assumption | omega | decide) ?_ | refine condP_decn (fun hc => ?_) (fun hc => ?_) | refine condP_dec (fun hc => ?_) (fun hc => ?_) | refine condP_true (by first | with_reducible rfl | assumption | rfl) ?_ | refine condP_false (by first | with_reducible rfl | assumption | rfl) ?_ | refine condP_bool (fun hc => ?_) (fun hc => ?_)) | ((with_reducible refine condO_id ?_); refine condO_some ?_) | ((with_reducible refine resP_id ?_); first | refine resP_one ?_ | refine resP_two ?_ | refine resP_three ?_ | refine resP_four ?_ | refine resP_zero ?_) | ((with_reducible refine callT_to ?_); first | refine callP_plain ?_ | refine callP_yield ?_ | (refine callP_func ?_; conv => { arg 3; simp only [push_cast] })))
    | refine wk_seq ?_ | refine wk_region ?_ | refine wk_skip ?_ | refine wo_nil ?_ | refine wk_cond ?_ | refine wk_ret ?_ | refine wk_nil ?_ | refine wo_dst rfl (opR_call ?_) | refine wo_nodst (opR_call ?_) | refine wo_dst rfl (opR_pick ?_) | refine wo_guard rfl rfl ?_ | refine wo_guardn rfl ?_ | refine wo_dst rfl (opR_pure ?_) | refine wo_nodst (opR_pure ?_)
    | refine give_ret ?_ | refine give_end ?_)
  refine (fromratio_w (M : Int) (E : Int) (by omega) (by omega) _).mono ?_
  rintro _ h4 ⟨hq, g4⟩; have n4 := g4.1; have k4 := g4.2; try simp only [next_new, next_set] at n4 k4
  obtain ⟨V, ⟨m, t, u, rfl, okq, inq, ocq, eV, sq⟩, hV, dV, leV⟩ := fr_good iM lM dM hq
  obtain ⟨au, cu, rfl, _⟩ := id inq
  repeat' (first
    | ((with_reducible first | refine optP_id ?_ | refine condP_id ?_ | refine condO_id ?_ | refine resP_id ?_ | refine callT_of ?_); conv => { arg 1; simp (disch := first | assumption | omega) only [push_cast, ↓reduceIte, reduceIte, Nat.reduceEqDiff, Nat.reduceAdd, Nat.reduceSub, Nat.reduceMul, Nat.reduceBEq, Int.reduceNeg, k1, k2, k3, k4] }; first | ((with_reducible refine optP_id ?_); refine optP_some ?_) | ((with_reducible refine condP_id ?_); first | refine condP_yes (by first | assumption | exact fun hn => hn (by assumption) | omega | decide) ?_ | refine condP_non (by assumption) ?_ | refine condP_no (by first | assumption | omega | decide) ?_ | refine condP_decn (fun hc => ?_) (fun hc => ?_) | refine condP_dec (fun hc => ?_) (fun hc => ?_) | refine condP_true (by first | with_reducible rfl | assumption | rfl) ?_ | refine condP_false (by first | with_reducible rfl | assumption | rfl) ?_ | refine condP_bool (fun hc => ?_) (fun hc => ?_)) | ((with_reducible refine condO_id ?_); refine condO_some ?_) | ((with_reducible refine resP_id ?_); first | refine resP_one ?_ | refine resP_two ?_ | refine resP_three ?_ | refine resP_four ?_ | refine resP_zero ?_) | ((with_reducible refine callT_to ?_); first | refine callP_plain ?_ | refine callP_yield ?_ | (refine callP_func ?_; conv => { arg 3; simp only [push_cast] })))
    | refine wk_seq ?_ | refine wk_region ?_ | refine wk_skip ?_ | refine wo_nil ?_ | refine wk_cond ?_ | refine wk_ret ?_ | refine wk_nil ?_ | refine wo_dst rfl (opR_call ?_) | refine wo_nodst (opR_call ?_) | refine wo_dst rfl (opR_pick ?_) | refine wo_guard rfl rfl ?_ | refine wo_guardn rfl ?_ | refine wo_dst rfl (opR_pure ?_) | refine wo_nodst (opR_pure ?_)
    | refine give_ret ?_ | refine give_end ?_)
  refine (pratio_w l s _ _ (SlIn.gr inp (by (repeat (first | exact Gr.refl _ | assumption | (refine Gr.trans ?_ (by assumption)) | refine Gr.set ?_ (by first | exact Nat.le_refl _ | omega | (simp only [next_new, next_set]; omega)) _ | refine Gr.new ?_ _)))) (okl okp)).mono ?_
  rintro _ h5 ⟨rfl, g5⟩; have n5 := g5.1; have k5 := g5.2; try simp only [next_new, next_set] at n5 k5
  obtain ⟨p1, b1, hr1, lb1, ub1, ut1, hc1⟩ := rat_good okp sp eU (Nat.le_trans leU (Nat.mul_le_mul_right _ (by omega)))
  rw [hr1, one_same iN hU lb1 hc1]
  have hND : ((N : Int) = (N : Int) ∧ (D : Int) = (D : Int)) := ⟨rfl, rfl⟩
  repeat' (first
    | ((with_reducible first | refine optP_id ?_ | refine condP_id ?_ | refine condO_id ?_ | refine resP_id ?_ | refine callT_of ?_); conv => { arg 1; simp (disch := first | assumption | omega) only [push_cast, ↓reduceIte, reduceIte, Nat.reduceEqDiff, Nat.reduceAdd, Nat.reduceSub, Nat.reduceMul, Nat.reduceBEq, Int.reduceNeg, k1, k2, k3, k4, k5] }; first | ((with_reducible refine optP_id ?_); refine optP_some ?_) | ((with_reducible refine condP_id ?_); first | refine condP_yes (by first | assumption | exact fun hn => hn (by assumption) | omega | decide) ?_ | refine condP_non (by assumption) ?_ | refine condP_no (by first | assumption | omega | decide) ?_ | refine condP_decn (fun hc => ?_) (fun hc => ?_) | refine condP_dec (fun hc => ?_) (fun hc => ?_) | refine condP_true (by first | with_reducible rfl | assumption | rfl) ?_ | refine condP_false (by first | with_reducible rfl | assumption | rfl) ?_ | refine condP_bool (fun hc => ?_) (fun hc => ?_)) | ((with_reducible refine condO_id ?_); refine condO_some ?_) | ((with_reducible refine resP_id ?_); first | refine resP_one ?_ | refine resP_two ?_ | refine resP_three ?_ | refine resP_four ?_ | refine resP_zero ?_) | ((with_reducible refine callT_to ?_); first | refine callP_plain ?_ | refine callP_yield ?_ | (refine callP_func ?_; conv => { arg 3; simp only [push_cast] })))
    | refine wk_seq ?_ | refine wk_region ?_ | refine wk_skip ?_ | refine wo_nil ?_ | refine wk_cond ?_ | refine wk_ret ?_ | refine wk_nil ?_ | refine wo_dst rfl (opR_call ?_) | refine wo_nodst (opR_call ?_) | refine wo_dst rfl (opR_pick ?_) | refine wo_guard rfl rfl ?_ | refine wo_guardn rfl ?_ | refine wo_dst rfl (opR_pure ?_) | refine wo_nodst (opR_pure ?_)
    | refine give_ret ?_ | refine give_end ?_)
  refine (mcmp_w (N : Int) (D : Int) (M : Int) (E : Int) (by omega) (by omega) (by omega) (by omega) _).mono ?_
  rintro _ h6 ⟨rfl, g6⟩; have n6 := g6.1; have k6 := g6.2; try simp only [next_new, next_set] at n6 k6
  rw [sgn_cmp iN iM hU hV]
  repeat' (first
    | ((with_reducible first | refine optP_id ?_ | refine condP_id ?_ | refine condO_id ?_ | refine resP_id ?_ | refine callT_of ?_); conv => { arg 1; simp (disch := first | assumption | omega) only [push_cast, ↓reduceIte, reduceIte, Nat.reduceEqDiff, Nat.reduceAdd, Nat.reduceSub, Nat.reduceMul, Nat.reduceBEq, Int.reduceNeg, k1, k2, k3, k4, k5, k6] }; first | ((with_reducible refine optP_id ?_); refine optP_some ?_) | ((with_reducible refine condP_id ?_); first | refine condP_yes (by first | assumption | exact fun hn => hn (by assumption) | omega | decide) ?_ | refine condP_non (by assumption) ?_ | refine condP_no (by first | assumption | omega | decide) ?_ | refine condP_decn (fun hc => ?_) (fun hc => ?_) | refine condP_dec (fun hc => ?_) (fun hc => ?_) | refine condP_true (by first | with_reducible rfl | assumption | rfl) ?_ | refine condP_false (by first | with_reducible rfl | assumption | rfl) ?_ | refine condP_bool (fun hc => ?_) (fun hc => ?_)) | ((with_reducible refine condO_id ?_); refine condO_some ?_) | ((with_reducible refine resP_id ?_); first | refine resP_one ?_ | refine resP_two ?_ | refine resP_three ?_ | refine resP_four ?_ | refine resP_zero ?_) | ((with_reducible refine callT_to ?_); first | refine callP_plain ?_ | refine callP_yield ?_ | (refine callP_func ?_; conv => { arg 3; simp only [push_cast] })))
    | refine wk_seq ?_ | refine wk_region ?_ | refine wk_skip ?_ | refine wo_nil ?_ | refine wk_cond ?_ | refine wk_ret ?_ | refine wk_nil ?_ | refine wo_dst rfl (opR_call ?_) | refine wo_nodst (opR_call ?_) | refine wo_dst rfl (opR_pick ?_) | refine wo_guard rfl rfl ?_ | refine wo_guardn rfl ?_ | refine wo_dst rfl (opR_pure ?_) | refine wo_nodst (opR_pure ?_)
    | refine give_ret ?_ | refine give_end ?_)
  refine (compare_w l m s t _ _ _ (SlIn.gr inp (by (repeat (first | exact Gr.refl _ | assumption | (refine Gr.trans ?_ (by assumption)) | refine Gr.set ?_ (by first | exact Nat.le_refl _ | omega | (simp only [next_new, next_set]; omega)) _ | refine Gr.new ?_ _)))) (SlIn.gr inq (by (repeat (first | exact Gr.refl _ | assumption | (refine Gr.trans ?_ (by assumption)) | refine Gr.set ?_ (by first | exact Nat.le_refl _ | omega | (simp only [next_new, next_set]; omega)) _ | refine Gr.new ?_ _)))) ocp ocq (okl okp) (okl okq)).mono ?_
  rintro _ h7 ⟨rfl, g7⟩; have n7 := g7.1; have k7 := g7.2; try simp only [next_new, next_set] at n7 k7
  rw [if_neg (fun hh => hh (placeE_ok.2 okp)), if_neg (fun hh => hh (placeE_ok.2 okq)), eU, eV]
  have hsg : sgnN U V = sgnN U V := rfl
  generalize sgnN U V = sg at *
  repeat' (first
    | ((with_reducible first | refine optP_id ?_ | refine condP_id ?_ | refine condO_id ?_ | refine resP_id ?_ | refine callT_of ?_); conv => { arg 1; simp (disch := first | assumption | omega) only [push_cast, ↓reduceIte, reduceIte, Nat.reduceEqDiff, Nat.reduceAdd, Nat.reduceSub, Nat.reduceMul, Nat.reduceBEq, Int.reduceNeg, k1, k2, k3, k4, k5, k6, k7] }; first | ((with_reducible refine optP_id ?_); refine optP_some ?_) | ((with_reducible refine condP_id ?_); first | refine condP_yes (by first | assumption | exact fun hn => hn (by assumption) | omega | decide) ?_ | refine condP_non (by assumption) ?_ | refine condP_no (by first | assumption | omega | decide) ?_ | refine condP_decn (fun hc => ?_) (fun hc => ?_) | refine condP_dec (fun hc => ?_) (fun hc => ?_) | refine condP_true (by first | with_reducible rfl | assumption | rfl) ?_ | refine condP_false (by first | with_reducible rfl | assumption | rfl) ?_ | refine condP_bool (fun hc => ?_) (fun hc => ?_)) | ((with_reducible refine condO_id ?_); refine condO_some ?_) | ((with_reducible refine resP_id ?_); first | refine resP_one ?_ | refine resP_two ?_ | refine resP_three ?_ | refine resP_four ?_ | refine resP_zero ?_) | ((with_reducible refine callT_to ?_); first | refine callP_plain ?_ | refine callP_yield ?_ | (refine callP_func ?_; conv => { arg 3; simp only [push_cast] })))
    | refine wk_seq ?_ | refine wk_region ?_ | refine wk_skip ?_ | refine wo_nil ?_ | refine wk_cond ?_ | refine wk_ret ?_ | refine wk_nil ?_ | refine wo_dst rfl (opR_call ?_) | refine wo_nodst (opR_call ?_) | refine wo_dst rfl (opR_pick ?_) | refine wo_guard rfl rfl ?_ | refine wo_guardn rfl ?_ | refine wo_dst rfl (opR_pure ?_) | refine wo_nodst (opR_pure ?_)
    | refine give_ret ?_ | refine give_end ?_)
  refine (madd_w (N : Int) (D : Int) (M : Int) (E : Int) (by omega) (by omega) (by omega) (by omega) _).mono ?_
  rintro _ h8 ⟨rfl, g8⟩; have n8 := g8.1; have k8 := g8.2; try simp only [next_new, next_set] at n8 k8
  have leS : U + V ≤ 2000000 * 60 ^ 64 := by
    have := Nat.add_le_add leU leV
    rw [← Nat.add_mul] at this
    exact this
  have hSl : U + V < 60 ^ 68 := Nat.lt_of_le_of_lt leS (by decide +kernel)
  have ws := fun HH hin => sum_w [(l, s), (m, t)] (.slice (some ⟨h8.next + 1, 0, none⟩) 2 (EX + 2)) HH hin (by simp) (fun i hi => by
    match i, hi with
    | 0, _ => exact okl okp
    | 1, _ => exact okl okq)
  have hsum : ∀ r H, sumR [(l, s), (m, t)] r H → plU (U + V) r H := fun r H hs => by
    rcases hs with ⟨hh, _⟩ | ⟨_, i, hi, _, hh, _⟩ | ⟨_, _, hh⟩
    · exact absurd (show 64 < 2 from hh) (by decide)
    · match i, hi with
      | 0, _ => exact absurd (placeE_ok.2 okp) hh
      | 1, _ => exact absurd (placeE_ok.2 okq) hh
    · rw [show [(l, s), (m, t)].length = 2 from rfl, sumU_two, eU, eV] at hh
      exact plU_sum hh (Nat.dvd_add dU dV) hSl
  clear hSl
  generalize hF : addF (N : Int) (D : Int) (M : Int) (E : Int) = F at *
  repeat' (first
    | ((with_reducible first | refine optP_id ?_ | refine condP_id ?_ | refine condO_id ?_ | refine resP_id ?_ | refine callT_of ?_); conv => { arg 1; simp (disch := first | assumption | omega) only [push_cast, ↓reduceIte, reduceIte, Nat.reduceEqDiff, Nat.reduceAdd, Nat.reduceSub, Nat.reduceMul, Nat.reduceBEq, Int.reduceNeg, k1, k2, k3, k4, k5, k6, k7, k8] }; first | ((with_reducible refine optP_id ?_); refine optP_some ?_) | ((with_reducible refine condP_id ?_); first | refine condP_yes (by first | assumption | exact fun hn => hn (by assumption) | omega | decide) ?_ | refine condP_non (by assumption) ?_ | refine condP_no (by first | assumption | omega | decide) ?_ | refine condP_decn (fun hc => ?_) (fun hc => ?_) | refine condP_dec (fun hc => ?_) (fun hc => ?_) | refine condP_true (by first | with_reducible rfl | assumption | rfl) ?_ | refine condP_false (by first | with_reducible rfl | assumption | rfl) ?_ | refine condP_bool (fun hc => ?_) (fun hc => ?_)) | ((with_reducible refine condO_id ?_); refine condO_some ?_) | ((with_reducible refine resP_id ?_); first | refine resP_one ?_ | refine resP_two ?_ | refine resP_three ?_ | refine resP_four ?_ | refine resP_zero ?_) | ((with_reducible refine callT_to ?_); first | refine callP_plain ?_ | refine callP_yield ?_ | (refine callP_func ?_; conv => { arg 3; simp only [push_cast] })))
    | refine wk_seq ?_ | refine wk_region ?_ | refine wk_skip ?_ | refine wo_nil ?_ | refine wk_cond ?_ | refine wk_ret ?_ | refine wk_nil ?_ | refine wo_dst rfl (opR_call ?_) | refine wo_nodst (opR_call ?_) | refine wo_dst rfl (opR_pick ?_) | refine wo_guard rfl rfl ?_ | refine wo_guardn rfl ?_ | refine wo_dst rfl (opR_pure ?_) | refine wo_nodst (opR_pure ?_)
    | refine give_ret ?_ | refine give_end ?_)
  refine (ws _ (pin_two (by simp only [next_new, next_set]; omega) (by simp (disch := first | assumption | omega) only [push_cast, ↓reduceIte, reduceIte, Nat.reduceEqDiff, Nat.reduceAdd, Nat.reduceSub, Nat.reduceMul, Nat.reduceBEq, Int.reduceNeg]) (SlIn.gr inp (by (repeat (first | exact Gr.refl _ | assumption | (refine Gr.trans ?_ (by assumption)) | refine Gr.set ?_ (by first | exact Nat.le_refl _ | omega | (simp only [next_new, next_set]; omega)) _ | refine Gr.new ?_ _)))) (SlIn.gr inq (by (repeat (first | exact Gr.refl _ | assumption | (refine Gr.trans ?_ (by assumption)) | refine Gr.set ?_ (by first | exact Nat.le_refl _ | omega | (simp only [next_new, next_set]; omega)) _ | refine Gr.new ?_ _)))) ocp ocq)).mono ?_
  rintro _ h9 ⟨hs, g9⟩; have n9 := g9.1; have k9 := g9.2; try simp only [next_new, next_set] at n9 k9
  obtain ⟨n, w, vw, rfl, okn, inn, ocn, eW, sn⟩ := hsum _ _ hs
  obtain ⟨aw, cw, rfl, _⟩ := id inn
  repeat' (first
    | ((with_reducible first | refine optP_id ?_ | refine condP_id ?_ | refine condO_id ?_ | refine resP_id ?_ | refine callT_of ?_); conv => { arg 1; simp (disch := first | assumption | omega) only [push_cast, ↓reduceIte, reduceIte, Nat.reduceEqDiff, Nat.reduceAdd, Nat.reduceSub, Nat.reduceMul, Nat.reduceBEq, Int.reduceNeg, k1, k2, k3, k4, k5, k6, k7, k8, k9] }; first | ((with_reducible refine optP_id ?_); refine optP_some ?_) | ((with_reducible refine condP_id ?_); first | refine condP_yes (by first | assumption | exact fun hn => hn (by assumption) | omega | decide) ?_ | refine condP_non (by assumption) ?_ | refine condP_no (by first | assumption | omega | decide) ?_ | refine condP_decn (fun hc => ?_) (fun hc => ?_) | refine condP_dec (fun hc => ?_) (fun hc => ?_) | refine condP_true (by first | with_reducible rfl | assumption | rfl) ?_ | refine condP_false (by first | with_reducible rfl | assumption | rfl) ?_ | refine condP_bool (fun hc => ?_) (fun hc => ?_)) | ((with_reducible refine condO_id ?_); refine condO_some ?_) | ((with_reducible refine resP_id ?_); first | refine resP_one ?_ | refine resP_two ?_ | refine resP_three ?_ | refine resP_four ?_ | refine resP_zero ?_) | ((with_reducible refine callT_to ?_); first | refine callP_plain ?_ | refine callP_yield ?_ | (refine callP_func ?_; conv => { arg 3; simp only [push_cast] })))
    | refine wk_seq ?_ | refine wk_region ?_ | refine wk_skip ?_ | refine wo_nil ?_ | refine wk_cond ?_ | refine wk_ret ?_ | refine wk_nil ?_ | refine wo_dst rfl (opR_call ?_) | refine wo_nodst (opR_call ?_) | refine wo_dst rfl (opR_pick ?_) | refine wo_guard rfl rfl ?_ | refine wo_guardn rfl ?_ | refine wo_dst rfl (opR_pure ?_) | refine wo_nodst (opR_pure ?_)
    | refine give_ret ?_ | refine give_end ?_)
  refine (pratio_w n w _ _ (SlIn.gr inn (by (repeat (first | exact Gr.refl _ | assumption | (refine Gr.trans ?_ (by assumption)) | refine Gr.set ?_ (by first | exact Nat.le_refl _ | omega | (simp only [next_new, next_set]; omega)) _ | refine Gr.new ?_ _)))) (okl okn)).mono ?_
  rintro _ h10 ⟨rfl, g10⟩; have n10 := g10.1; have k10 := g10.2; try simp only [next_new, next_set] at n10 k10
  obtain ⟨t2, b2, hr2, lb2, ub2, ut2, hc2⟩ := rat_good okn sn eW leS
  obtain ⟨P, Q, m1, m2⟩ := sum_same iN iM hU hV lb2 ub2 ut2 hc2
  rw [hr2, m1]
  obtain rfl : F = ((P : Int), (Q : Int), 0) := hF.symm.trans m2
  have hPQ : ((P : Int) = (P : Int) ∧ (Q : Int) = (Q : Int)) := ⟨rfl, rfl⟩
  repeat' (first
    | ((with_reducible first | refine optP_id ?_ | refine condP_id ?_ | refine condO_id ?_ | refine resP_id ?_ | refine callT_of ?_); conv => { arg 1; simp (disch := first | assumption | omega) only [push_cast, ↓reduceIte, reduceIte, Nat.reduceEqDiff, Nat.reduceAdd, Nat.reduceSub, Nat.reduceMul, Nat.reduceBEq, Int.reduceNeg, k1, k2, k3, k4, k5, k6, k7, k8, k9, k10] }; first | ((with_reducible refine optP_id ?_); refine optP_some ?_) | ((with_reducible refine condP_id ?_); first | refine condP_yes (by first | assumption | exact fun hn => hn (by assumption) | omega | decide) ?_ | refine condP_non (by assumption) ?_ | refine condP_no (by first | assumption | omega | decide) ?_ | refine condP_decn (fun hc => ?_) (fun hc => ?_) | refine condP_dec (fun hc => ?_) (fun hc => ?_) | refine condP_true (by first | with_reducible rfl | assumption | rfl) ?_ | refine condP_false (by first | with_reducible rfl | assumption | rfl) ?_ | refine condP_bool (fun hc => ?_) (fun hc => ?_)) | ((with_reducible refine condO_id ?_); refine condO_some ?_) | ((with_reducible refine resP_id ?_); first | refine resP_one ?_ | refine resP_two ?_ | refine resP_three ?_ | refine resP_four ?_ | refine resP_zero ?_) | ((with_reducible refine callT_to ?_); first | refine callP_plain ?_ | refine callP_yield ?_ | (refine callP_func ?_; conv => { arg 3; simp only [push_cast] })))
    | refine wk_seq ?_ | refine wk_region ?_ | refine wk_skip ?_ | refine wo_nil ?_ | refine wk_cond ?_ | refine wk_ret ?_ | refine wk_nil ?_ | refine wo_dst rfl (opR_call ?_) | refine wo_nodst (opR_call ?_) | refine wo_dst rfl (opR_pick ?_) | refine wo_guard rfl rfl ?_ | refine wo_guardn rfl ?_ | refine wo_dst rfl (opR_pure ?_) | refine wo_nodst (opR_pure ?_)
    | (refine wc_known rfl ?_)
    | refine give_ret ?_ | refine give_end ?_)
  rfl
end Go.Proofs.YtcfohcpcepeolaaDoor
