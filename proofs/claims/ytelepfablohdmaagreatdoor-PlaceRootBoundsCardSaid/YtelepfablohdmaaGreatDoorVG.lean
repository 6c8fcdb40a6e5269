/- Contract: power; what a number placed at a shift is. -/
import Derived.Test.YtelepfablohdmaaGreatDoorVF
set_option linter.unusedSimpArgs false
set_option linter.unusedVariables false
/- Contracts: times, Mul. -/
namespace Go.Proofs.YtelepfablohdmaaGreatDoor
open Go.Ev
theorem digsN_le {X k K : Nat} (h : digsN X k) (hX : X < 60 ^ K) : k ≤ K := by
  rcases h.2.2 with q | q
  · omega
  · apply Classical.byContradiction
    intro hh
    apply q
    have : 60 ^ K ≤ 60 ^ (k - 1) := Nat.pow_le_pow_right (by decide) (by omega)
    rw [Nat.div_eq_of_lt (by omega)]
theorem digsN_lt {X k : Nat} (hX : X < 60 ^ 146) (h : digsN X k) : X < 60 ^ k := by
  have := top_zero hX h
  rcases Nat.lt_or_ge X (60 ^ k) with q | q
  · exact q
  · have := Nat.div_pos q (pow60_pos k)
    omega
theorem ints_okL (k : IntKind) : ∀ l : List Int, okL (ints k l) = true
  | [] => rfl
  | x :: l => by
    show (okC (.int k x) && okL (ints k l)) = true
    rw [ints_okL k l]; rfl
theorem same_ints (k : IntKind) (l : List Int) : same (.agg (ints k l).toArray) (.agg (ints k l).toArray) = true := same_of rfl (ints_okL k l)
theorem place_len {l : List Int} {e X K : Nat} (hl : valid l) (hn : l ≠ []) (h : valN l * 60 ^ e = X) (hX : X < 60 ^ K) : l.length + e ≤ K := by
  have h1 := valid_ge hl hn
  have h2 := Nat.mul_le_mul_right (60 ^ e) h1
  rw [← Nat.pow_add, h] at h2
  have := (Nat.pow_lt_pow_iff_right (by decide : 1 < 60)).1 (Nat.lt_of_le_of_lt h2 hX)
  have := List.length_pos_iff.2 hn
  omega
theorem placeE_zero {l : List Int} {s : Int} (hv : valid l) (hn : l ≠ []) (h1 : -64 ≤ s) (h2 : s ≤ 64) : (l.length ≤ 16 → placeE l s = 0) ∧ (16 < l.length → placeE l s ≠ 0) := by
  refine ⟨fun h => ?_, fun h => ?_⟩
  · rw [placeE, if_neg (fun h3 => h3 (valid_check hv h)), if_neg (fun h3 => h3 ⟨h1, h2⟩), if_neg (fun h3 => hn h3.1)]
  · have : checkE l = 3 := by rw [checkE, if_pos h]
    rw [placeE, this, if_pos (by decide)]
    decide
theorem valN_one : valN [1] = 1 := rfl
end Go.Proofs.YtelepfablohdmaaGreatDoor
/- Contracts: multiply of bytes by integers, multiple, scaled. -/
namespace Go.Proofs.YtelepfablohdmaaGreatDoor
open Go.Ev
set_option maxRecDepth 100000 in
set_option maxHeartbeats 8000000 in
theorem muli_w {e1 : Nat} (ua ub : List Int) (ha : digs ua) (hb : digs ub) (la : ua.length ≤ 200) (lb : ub.length ≤ 200) (va vb : Value) (h : AHeap) (hva : SlIn encB 1 e1 h va ua) (hvb : IIn h vb ub) :
    Wc pr (.func 143) [va, vb] h fun r h' => (∃ L b, r = .slice (ownB L b) L.length L.length ∧ digs L ∧ leN L = leN ua * leN ub ∧ L.length ≤ ua.length + ub.length ∧ (L ≠ [] → b < h'.next ∧ h'.get b = some (.cells (flatE encB L) 5 true))) ∧ Gr h h' := by
  obtain ⟨aa, ca, rfl, _, _⟩ := id hva
  obtain ⟨ab, cb, rfl, _, hv⟩ := id hvb
  refine wc_func Tryz.func143 rfl rfl rfl rfl ?_
  repeat' (first
    | ((with_reducible first | refine optP_id ?_ | refine condP_id ?_ | refine resP_id ?_ | refine callT_of ?_); conv => { arg 1; simp (disch := first | assumption | omega) only [push_cast, ↓reduceIte, reduceIte, Nat.reduceEqDiff, Nat.reduceAdd, Nat.reduceSub, Nat.reduceMul, Nat.reduceBEq, Int.reduceNeg] }; first | ((with_reducible refine optP_id ?_); refine optP_some ?_) | ((with_reducible refine condP_id ?_); first | refine qcy ?_ | refine qcx ?_ | refine qco ?_ | refine condP_decn (fun hc => ?_) (fun hc => ?_) | refine condP_dec (fun hc => ?_) (fun hc => ?_) | refine qct ?_ | refine qcf ?_ | refine condP_bool (fun hc => ?_) (fun hc => ?_)) | ((with_reducible refine resP_id ?_); refine resP_one ?_) | ((with_reducible refine callT_to ?_); refine callP_plain ?_))
    | refine wk_seq ?_ | refine wk_region ?_ | refine wk_block ?_ | refine wk_inBlock ?_ | refine wk_skip ?_ | refine wo_nil ?_ | refine wk_exit ?_ | refine exitK_code ?_ | refine exitK_hit ?_ | refine exitK_miss rfl ?_ | refine exitK_inLoop ?_ | refine wk_cond ?_ | refine wk_ret ?_ | refine wk_nil ?_ | refine wo_dst rfl (opR_call ?_) | refine wo_nodst (opR_call ?_) | refine wo_dst rfl (opR_pure ?_) | refine wo_nodst (opR_pure ?_)
    | refine give_ret ?_ | refine give_end ?_)
  refine wk_loop (fun n E H => ∃ (i b : Nat) (L : List Int), n = ub.length - i ∧ i ≤ ub.length ∧ digs L ∧ leN L = leN ua * leN (ub.take i) ∧ L.length ≤ ua.length + i ∧ OwnB [] 0 h.next H L b ∧ Gr h H ∧ E.look 0 top = .slice aa ua.length ca ∧ E.look 5 top = .slice (ownB L b) L.length L.length ∧ E.look 8 top = .slice ab ub.length cb ∧ E.look 9 top = .int .i64 (ub.length : Int) ∧ E.look 10 top = .int .i64 (i : Int)) ub.length
    ⟨0, 0, [], by omega, by omega, digs_nil, by simp [leN], by simp, fun hn => absurd rfl hn, by (repeat (first | exact Gr.refl _ | assumption | (refine Gr.trans ?_ (by assumption)) | refine Gr.set ?_ (by first | exact Nat.le_refl _ | omega | (simp only [next_new, next_set]; omega)) _ | refine Gr.new ?_ _)), by simp (disch := first | assumption | omega) only [push_cast, ↓reduceIte, reduceIte, Nat.reduceEqDiff, Nat.reduceAdd, Nat.reduceSub, Nat.reduceMul, Nat.reduceBEq, Int.reduceNeg], by simp (disch := first | assumption | omega) only [push_cast, ↓reduceIte, reduceIte, Nat.reduceEqDiff, Nat.reduceAdd, Nat.reduceSub, Nat.reduceMul, Nat.reduceBEq, Int.reduceNeg, ownB_nil, List.length_nil], by simp (disch := first | assumption | omega) only [push_cast, ↓reduceIte, reduceIte, Nat.reduceEqDiff, Nat.reduceAdd, Nat.reduceSub, Nat.reduceMul, Nat.reduceBEq, Int.reduceNeg], by simp (disch := first | assumption | omega) only [push_cast, ↓reduceIte, reduceIte, Nat.reduceEqDiff, Nat.reduceAdd, Nat.reduceSub, Nat.reduceMul, Nat.reduceBEq, Int.reduceNeg], by simp (disch := first | assumption | omega) only [push_cast, ↓reduceIte, reduceIte, Nat.reduceEqDiff, Nat.reduceAdd, Nat.reduceSub, Nat.reduceMul, Nat.reduceBEq, Int.reduceNeg, Int.natCast_zero]⟩ ?_
  rintro n E H ⟨i, b, L, rfl, hi, hL, hLv, hLl, hown, gr, e0, e5, e8, e9, e10⟩ next
  by_cases hlt : i < ub.length
  · have ilt : (i : Int) < (ub.length : Int) := by omega
    obtain ⟨bu, offu, allu, rwu, hab, hbu, hgu, htu⟩ := hv (by intro h; rw [h] at hlt; exact absurd hlt (Nat.not_lt_zero _))
    have hguH : H.get bu = some (.cells allu 3 rwu) := by rw [gr.2 bu hbu]; exact hgu
    have h1 := at_cut1 _ _ _ (htu i hlt)
    rw [Nat.mul_one] at h1
    have e8' : E.look 8 top = .slice (some ⟨bu, offu, none⟩) ub.length cb := by rw [e8, hab]
    have hd := hb _ (List.getElem_mem hlt)
    have ht := leN_take hlt
    obtain ⟨d, hde⟩ : ∃ d : Nat, ub[i] = (d : Int) := ⟨ub[i].toNat, by omega⟩
    rw [hde, Int.toNat_natCast] at ht
    rw [hde] at h1 hd
    have gn := gr.1
    repeat' (first
    | ((with_reducible first | refine optP_id ?_ | refine condP_id ?_ | refine resP_id ?_ | refine callT_of ?_); conv => { arg 1; simp (disch := first | assumption | omega) only [push_cast, ↓reduceIte, reduceIte, Nat.reduceEqDiff, Nat.reduceAdd, Nat.reduceSub, Nat.reduceMul, Nat.reduceBEq, Int.reduceNeg, e0, e5, e8', e9, e10, hguH, h1, Nat.mul_one] }; first | ((with_reducible refine optP_id ?_); refine optP_some ?_) | ((with_reducible refine condP_id ?_); first | refine qcy ?_ | refine qcx ?_ | refine qco ?_ | refine condP_decn (fun hc => ?_) (fun hc => ?_) | refine condP_dec (fun hc => ?_) (fun hc => ?_) | refine qct ?_ | refine qcf ?_ | refine condP_bool (fun hc => ?_) (fun hc => ?_)) | ((with_reducible refine resP_id ?_); refine resP_one ?_) | ((with_reducible refine callT_to ?_); refine callP_plain ?_))
    | refine wk_seq ?_ | refine wk_region ?_ | refine wk_block ?_ | refine wk_inBlock ?_ | refine wk_skip ?_ | refine wo_nil ?_ | refine wk_exit ?_ | refine exitK_code ?_ | refine exitK_hit ?_ | refine exitK_miss rfl ?_ | refine exitK_inLoop ?_ | refine wk_cond ?_ | refine wk_ret ?_ | refine wk_nil ?_ | refine wo_dst rfl (opR_call ?_) | refine wo_nodst (opR_call ?_) | refine wo_dst rfl (opR_pure ?_) | refine wo_nodst (opR_pure ?_)
    | refine give_ret ?_ | refine give_end ?_)
    refine (add_w (e := e1) L ua d i b hL ha (by omega) (by omega) (by omega) (by omega) _ H (fun hn => ⟨(hown hn).1, (hown hn).2.1⟩) (fun H' fr => SlIn.gr hva ⟨by have := fr.1; omega, fun c hc => by
      rw [fr.2 c (by omega) (fun hn => by
        rcases (hown hn).2.2 with q | ⟨q, _⟩
        · omega
        · exact absurd rfl q), gr.2 c hc]⟩)).mono ?_
    rintro _ H2 ⟨⟨L2, b2, rfl, k1, k2, k3, k4, k5⟩, fr⟩
    have fn := fr.1
    repeat' (first
    | ((with_reducible first | refine optP_id ?_ | refine condP_id ?_ | refine resP_id ?_ | refine callT_of ?_); conv => { arg 1; simp (disch := first | assumption | omega) only [push_cast, ↓reduceIte, reduceIte, Nat.reduceEqDiff, Nat.reduceAdd, Nat.reduceSub, Nat.reduceMul, Nat.reduceBEq, Int.reduceNeg, e0, e5, e8', e9, e10] }; first | ((with_reducible refine optP_id ?_); refine optP_some ?_) | ((with_reducible refine condP_id ?_); first | refine qcy ?_ | refine qcx ?_ | refine qco ?_ | refine condP_decn (fun hc => ?_) (fun hc => ?_) | refine condP_dec (fun hc => ?_) (fun hc => ?_) | refine qct ?_ | refine qcf ?_ | refine condP_bool (fun hc => ?_) (fun hc => ?_)) | ((with_reducible refine resP_id ?_); refine resP_one ?_) | ((with_reducible refine callT_to ?_); refine callP_plain ?_))
    | refine wk_seq ?_ | refine wk_region ?_ | refine wk_block ?_ | refine wk_inBlock ?_ | refine wk_skip ?_ | refine wo_nil ?_ | refine wk_exit ?_ | refine exitK_code ?_ | refine exitK_hit ?_ | refine exitK_miss rfl ?_ | refine exitK_inLoop ?_ | refine wk_cond ?_ | refine wk_ret ?_ | refine wk_nil ?_ | refine wo_dst rfl (opR_call ?_) | refine wo_nodst (opR_call ?_) | refine wo_dst rfl (opR_pure ?_) | refine wo_nodst (opR_pure ?_)
    | refine give_ret ?_ | refine give_end ?_)
    refine next (ub.length - (i + 1)) _ _ (by omega) ⟨i + 1, b2, L2, rfl, by omega, k1, ?_, by omega, fun hn => ?_, ⟨by omega, fun c hc => ?_⟩, by simp (disch := first | assumption | omega) only [push_cast, ↓reduceIte, reduceIte, Nat.reduceEqDiff, Nat.reduceAdd, Nat.reduceSub, Nat.reduceMul, Nat.reduceBEq, Int.reduceNeg, e0], by simp (disch := first | assumption | omega) only [push_cast, ↓reduceIte, reduceIte, Nat.reduceEqDiff, Nat.reduceAdd, Nat.reduceSub, Nat.reduceMul, Nat.reduceBEq, Int.reduceNeg], by simp (disch := first | assumption | omega) only [push_cast, ↓reduceIte, reduceIte, Nat.reduceEqDiff, Nat.reduceAdd, Nat.reduceSub, Nat.reduceMul, Nat.reduceBEq, Int.reduceNeg, e8], by simp (disch := first | assumption | omega) only [push_cast, ↓reduceIte, reduceIte, Nat.reduceEqDiff, Nat.reduceAdd, Nat.reduceSub, Nat.reduceMul, Nat.reduceBEq, Int.reduceNeg, e9], by simp (disch := first | assumption | omega) only [push_cast, ↓reduceIte, reduceIte, Nat.reduceEqDiff, Nat.reduceAdd, Nat.reduceSub, Nat.reduceMul, Nat.reduceBEq, Int.reduceNeg, Int.natCast_add, Int.natCast_one]⟩
    · rw [k2, ht, hLv]
      generalize leN ua = A
      generalize leN (ub.take i) = B
      generalize 60 ^ i = C
      grind
    · obtain ⟨q1, q2, q3⟩ := k5 hn
      refine ⟨q1, q2, .inl ?_⟩
      rcases q3 with q | ⟨q, q4⟩
      · omega
      · rcases (hown q).2.2 with q | ⟨q, _⟩
        · omega
        · exact absurd rfl q
    · rw [fr.2 c (by omega) (fun hn => by
        rcases (hown hn).2.2 with q | ⟨q, _⟩
        · omega
        · exact absurd rfl q), gr.2 c hc]
  · have ilt : ¬ (i : Int) < (ub.length : Int) := by omega
    repeat' (first
    | ((with_reducible first | refine optP_id ?_ | refine condP_id ?_ | refine resP_id ?_ | refine callT_of ?_); conv => { arg 1; simp (disch := first | assumption | omega) only [push_cast, ↓reduceIte, reduceIte, Nat.reduceEqDiff, Nat.reduceAdd, Nat.reduceSub, Nat.reduceMul, Nat.reduceBEq, Int.reduceNeg, e0, e5, e8, e9, e10] }; first | ((with_reducible refine optP_id ?_); refine optP_some ?_) | ((with_reducible refine condP_id ?_); first | refine qcy ?_ | refine qcx ?_ | refine qco ?_ | refine condP_decn (fun hc => ?_) (fun hc => ?_) | refine condP_dec (fun hc => ?_) (fun hc => ?_) | refine qct ?_ | refine qcf ?_ | refine condP_bool (fun hc => ?_) (fun hc => ?_)) | ((with_reducible refine resP_id ?_); refine resP_one ?_) | ((with_reducible refine callT_to ?_); refine callP_plain ?_))
    | refine wk_seq ?_ | refine wk_region ?_ | refine wk_block ?_ | refine wk_inBlock ?_ | refine wk_skip ?_ | refine wo_nil ?_ | refine wk_exit ?_ | refine exitK_code ?_ | refine exitK_hit ?_ | refine exitK_miss rfl ?_ | refine exitK_inLoop ?_ | refine wk_cond ?_ | refine wk_ret ?_ | refine wk_nil ?_ | refine wo_dst rfl (opR_call ?_) | refine wo_nodst (opR_call ?_) | refine wo_dst rfl (opR_pure ?_) | refine wo_nodst (opR_pure ?_)
    | refine give_ret ?_ | refine give_end ?_)
    rw [List.take_of_length_le (by omega)] at hLv
    exact ⟨⟨L, b, rfl, hL, hLv, by omega, fun hn => ⟨(hown hn).1, (hown hn).2.1⟩⟩, gr⟩
theorem onei_in {H : AHeap} {b : Nat} {x : Int} (hb : b < H.next) (hg : H.get b = some (.cells [.int .i64 x] 3 true)) : IIn H (.slice (some ⟨b, 0, none⟩) 1 (EX + 1)) [x] :=
  own_in (l := [x]) (b := b) (c := EX + 1) encI_len (by rw [capLo_ex]; exact Nat.le_refl _) (fun _ => hb) (fun _ => ⟨true, hg⟩)
set_option maxRecDepth 100000 in
set_option maxHeartbeats 8000000 in
theorem multiple_w (X n : Nat) (hX : X < 60 ^ 145) (hn : n ≤ 59) (h : AHeap) :
    Wc pr (.func 124) [numV X, .int .i64 (n : Int)] h fun r h' => r = numV (X * n) ∧ Gr h h' := by
  have hX146 : X < 60 ^ 146 := Nat.lt_of_lt_of_le hX (Nat.pow_le_pow_right (by decide) (by omega))
  have wx := fun H => used_w X H
  rw [num_cells] at wx
  rw [num_cells X]
  have hcx : takeN 146 (ints .u8 (numD X)) = some (ints .u8 (numD X)) := num_cut X
  have hfx := ints_flat .u8 (numD X)
  refine wc_func Tryz.func124 rfl rfl rfl rfl ?_
  generalize hZ : ints .u8 (numD 0) = Z
  have zv : zeroV Tryz.prog 87 = some (.agg Z.toArray) := by rw [← hZ]; exact zv87
  generalize hCX : ints .u8 (numD X) = CX at *
  repeat' (first
    | ((with_reducible first | refine optP_id ?_ | refine resP_id ?_ | refine callT_of ?_); conv => { arg 1; simp (disch := first | assumption | omega) only [push_cast, ↓reduceIte, reduceIte, Nat.reduceEqDiff, Nat.reduceAdd, Nat.reduceSub, Nat.reduceMul, Nat.reduceBEq, Int.reduceNeg, hfx, hcx, zv] }; first | ((with_reducible refine optP_id ?_); refine optP_some ?_) | ((with_reducible refine resP_id ?_); refine resP_one ?_) | ((with_reducible refine callT_to ?_); refine callP_plain ?_))
    | refine wk_seq ?_ | refine wk_region ?_ | refine wo_nil ?_ | refine wk_ret ?_ | refine wk_nil ?_ | refine wo_dst rfl (opR_call ?_) | refine wo_nodst (opR_call ?_) | refine wo_dst rfl (opR_pure ?_) | refine wo_nodst (opR_pure ?_)
    | refine give_ret ?_ | refine give_end ?_)
  refine (wx _).mono ?_
  rintro _ h1 ⟨⟨b1, kx, rfl, hkx, hgx, p1, p2⟩, g1⟩; have n1 := g1.1; have k1 := g1.2; try simp only [next_new, next_set] at n1 k1
  simp only [next_new] at p1
  repeat' (first
    | ((with_reducible first | refine optP_id ?_ | refine resP_id ?_ | refine callT_of ?_); conv => { arg 1; simp (disch := first | assumption | omega) only [push_cast, ↓reduceIte, reduceIte, Nat.reduceEqDiff, Nat.reduceAdd, Nat.reduceSub, Nat.reduceMul, Nat.reduceBEq, Int.reduceNeg, k1] }; first | ((with_reducible refine optP_id ?_); refine optP_some ?_) | ((with_reducible refine resP_id ?_); refine resP_one ?_) | ((with_reducible refine callT_to ?_); refine callP_plain ?_))
    | refine wk_seq ?_ | refine wk_region ?_ | refine wo_nil ?_ | refine wk_ret ?_ | refine wk_nil ?_ | refine wo_dst rfl (opR_call ?_) | refine wo_nodst (opR_call ?_) | refine wo_dst rfl (opR_pure ?_) | refine wo_nodst (opR_pure ?_)
    | refine give_ret ?_ | refine give_end ?_)
  have lkx := digsN_le hkx hX
  have inx : SlIn encB 1 87 (h1.new (.cells [.int .i64 (n : Int)] 3 true)) (.slice (some ⟨b1, 0, none⟩) kx (EX + 146)) (usL X kx) := usL_in hkx.1 (by rw [capLo_ex]; exact hkx.1) (by simp only [next_new]; omega) (by rw [hCX]; simp (disch := first | assumption | omega) only [push_cast, ↓reduceIte, reduceIte, Nat.reduceEqDiff, Nat.reduceAdd, Nat.reduceSub, Nat.reduceMul, Nat.reduceBEq, Int.reduceNeg]; exact hgx)
  have inn : IIn (h1.new (.cells [.int .i64 (n : Int)] 3 true)) (.slice (some ⟨h1.next, 0, none⟩) 1 (EX + 1)) [(n : Int)] := onei_in (by simp only [next_new]; omega) (by simp (disch := first | assumption | omega) only [push_cast, ↓reduceIte, reduceIte, Nat.reduceEqDiff, Nat.reduceAdd, Nat.reduceSub, Nat.reduceMul, Nat.reduceBEq, Int.reduceNeg])
  refine (muli_w (usL X kx) [(n : Int)] (usL_digs hkx.1) (fun x hx => by rw [List.mem_singleton.1 hx]; omega) (by rw [usL_len hkx.1]; omega) (by simp) _ _ _ inx inn).mono ?_
  rintro _ h3 ⟨⟨L, bl, rfl, d1, d2, d3, d4⟩, g3⟩; have n3 := g3.1; have k3 := g3.2; try simp only [next_new, next_set] at n3 k3
  rw [usL_len hkx.1, List.length_singleton] at d3
  have hl1 : leN [(n : Int)] = n := by simp [leN]
  rw [usL_eq hkx.1 (digsN_lt hX146 hkx), hl1] at d2
  repeat' (first
    | ((with_reducible first | refine optP_id ?_ | refine resP_id ?_ | refine callT_of ?_); conv => { arg 1; simp (disch := first | assumption | omega) only [push_cast, ↓reduceIte, reduceIte, Nat.reduceEqDiff, Nat.reduceAdd, Nat.reduceSub, Nat.reduceMul, Nat.reduceBEq, Int.reduceNeg, k1, k3] }; first | ((with_reducible refine optP_id ?_); refine optP_some ?_) | ((with_reducible refine resP_id ?_); refine resP_one ?_) | ((with_reducible refine callT_to ?_); refine callP_plain ?_))
    | refine wk_seq ?_ | refine wk_region ?_ | refine wo_nil ?_ | refine wk_ret ?_ | refine wk_nil ?_ | refine wo_dst rfl (opR_call ?_) | refine wo_nodst (opR_call ?_) | refine wo_dst rfl (opR_pure ?_) | refine wo_nodst (opR_pure ?_)
    | refine give_ret ?_ | refine give_end ?_)
  refine (held_w (e := 5) L d1 (by omega) _ _ (own_in encB_len (by rw [(capLo_small (c := L.length) (by unfold EX; omega)).1]; exact Nat.le_refl _) (fun hn => (d4 hn).1) (fun hn => ⟨true, (d4 hn).2⟩))).mono ?_
  rintro _ h4 ⟨rfl, g4⟩; have n4 := g4.1; have k4 := g4.2; try simp only [next_new, next_set] at n4 k4
  rw [d2, num_cells]
  have e4 : h4.get (h.next + 1) = some (.cells Z 87 true) := by rw [k4 _ (by omega), k3 _ (by omega)]; simp (disch := first | assumption | omega) only [push_cast, ↓reduceIte, reduceIte, Nat.reduceEqDiff, Nat.reduceAdd, Nat.reduceSub, Nat.reduceMul, Nat.reduceBEq, Int.reduceNeg]; rw [k1 _ (by omega)]; simp (disch := first | assumption | omega) only [push_cast, ↓reduceIte, reduceIte, Nat.reduceEqDiff, Nat.reduceAdd, Nat.reduceSub, Nat.reduceMul, Nat.reduceBEq, Int.reduceNeg]
  have hcz : takeN 146 (ints .u8 (numD (X * n))) = some (ints .u8 (numD (X * n))) := num_cut _
  have hov : over0 (ints .u8 (numD (X * n))) Z = some (ints .u8 (numD (X * n))) := over_all (by rw [← hZ, num_len, num_len])
  have hst := storeK_all (num_ne _) (num_len _) (ints_flat _ _) e4 hov
  generalize ints .u8 (numD (X * n)) = CZ at *
  repeat' (first
    | ((with_reducible first | refine optP_id ?_ | refine resP_id ?_ | refine callT_of ?_); conv => { arg 1; simp (disch := first | assumption | omega) only [push_cast, ↓reduceIte, reduceIte, Nat.reduceEqDiff, Nat.reduceAdd, Nat.reduceSub, Nat.reduceMul, Nat.reduceBEq, Int.reduceNeg, k1, k3, k4, e4, hst, hcz, hcx] }; first | ((with_reducible refine optP_id ?_); refine optP_some ?_) | ((with_reducible refine resP_id ?_); refine resP_one ?_) | ((with_reducible refine callT_to ?_); refine callP_plain ?_))
    | refine wk_seq ?_ | refine wk_region ?_ | refine wo_nil ?_ | refine wk_ret ?_ | refine wk_nil ?_ | refine wo_dst rfl (opR_call ?_) | refine wo_nodst (opR_call ?_) | refine wo_dst rfl (opR_pure ?_) | refine wo_nodst (opR_pure ?_)
    | refine give_ret ?_ | refine give_end ?_)
  exact ⟨rfl, by (repeat (first | exact Gr.refl _ | assumption | (refine Gr.trans ?_ (by assumption)) | refine Gr.set ?_ (by first | exact Nat.le_refl _ | omega | (simp only [next_new, next_set]; omega)) _ | refine Gr.new ?_ _))⟩
end Go.Proofs.YtelepfablohdmaaGreatDoor
namespace Go.Proofs.YtelepfablohdmaaGreatDoor
open Go.Ev
attribute [push_cast] Tryz.results110 Tryz.results111 Tryz.results50 Tryz.results52 Tryz.results96 Tryz.underlying163
theorem sz163 : szV Tryz.prog 163 = some 1 := by kernel_rfl
theorem zv163 : zeroV Tryz.prog 163 = some (.int .u64 0) := by kernel_rfl
theorem ld163 (c : List Value) (off : Nat) : loadV Tryz.prog 163 c off = at? c off := by kernel_rfl
attribute [push_cast] sz163 zv163 ld163
set_option maxRecDepth 100000 in
set_option maxHeartbeats 8000000 in
theorem power_w (k : Nat) (hk : k ≤ 10) (h : AHeap) : Wc pr (.func 96) [.int .i64 (k : Int)] h fun r h' => r = .int .i64 ((60 ^ k : Nat) : Int) ∧ h = h' := by
  refine wc_func Tryz.func96 rfl rfl rfl rfl ?_
  repeat' (first
    | ((with_reducible first | refine optP_id ?_ | refine condP_id ?_ | refine resP_id ?_); conv => { arg 1; simp (disch := first | assumption | omega) only [push_cast, ↓reduceIte, reduceIte, Nat.reduceEqDiff, Nat.reduceAdd, Nat.reduceSub, Nat.reduceMul, Nat.reduceBEq, Int.reduceNeg] }; first | ((with_reducible refine optP_id ?_); refine optP_some ?_) | ((with_reducible refine condP_id ?_); first | refine qcy ?_ | refine qcx ?_ | refine qco ?_ | refine condP_decn (fun hc => ?_) (fun hc => ?_) | refine condP_dec (fun hc => ?_) (fun hc => ?_) | refine qct ?_ | refine qcf ?_ | refine condP_bool (fun hc => ?_) (fun hc => ?_)) | ((with_reducible refine resP_id ?_); refine resP_one ?_))
    | refine wk_seq ?_ | refine wk_region ?_ | refine wk_block ?_ | refine wk_inBlock ?_ | refine wk_skip ?_ | refine wo_nil ?_ | refine wk_exit ?_ | refine exitK_code ?_ | refine exitK_hit ?_ | refine exitK_miss rfl ?_ | refine exitK_inLoop ?_ | refine wk_cond ?_ | refine wk_ret ?_ | refine wk_nil ?_ | refine wo_dst rfl (opR_pure ?_) | refine wo_nodst (opR_pure ?_)
    | refine give_ret ?_ | refine give_end ?_)
  refine wk_loop (fun n E H => ∃ i p : Nat, n = k - i ∧ i ≤ k ∧ p = 60 ^ i ∧ h = H ∧ E.look 3 top = .int .i64 (p : Int) ∧ E.look 4 top = .int .i64 (k : Int) ∧ E.look 5 top = .int .i64 (i : Int)) k
    ⟨0, 1, by omega, by omega, rfl, rfl, by simp (disch := first | assumption | omega) only [push_cast, ↓reduceIte, reduceIte, Nat.reduceEqDiff, Nat.reduceAdd, Nat.reduceSub, Nat.reduceMul, Nat.reduceBEq, Int.reduceNeg, Int.natCast_one], by simp (disch := first | assumption | omega) only [push_cast, ↓reduceIte, reduceIte, Nat.reduceEqDiff, Nat.reduceAdd, Nat.reduceSub, Nat.reduceMul, Nat.reduceBEq, Int.reduceNeg], by simp (disch := first | assumption | omega) only [push_cast, ↓reduceIte, reduceIte, Nat.reduceEqDiff, Nat.reduceAdd, Nat.reduceSub, Nat.reduceMul, Nat.reduceBEq, Int.reduceNeg, Int.natCast_zero]⟩ ?_
  rintro n E _ ⟨i, p, rfl, hi, hp, rfl, e3, e4, e5⟩ next
  have hpb : p ≤ 60 ^ 10 := by rw [hp]; exact Nat.pow_le_pow_right (by decide) (by omega)
  by_cases hlt : i < k
  · have ilt : (i : Int) < (k : Int) := by omega
    have hpb2 : p ≤ 60 ^ 9 := by rw [hp]; exact Nat.pow_le_pow_right (by decide) (by omega)
    have hb : (p : Int) ≤ 10077696000000000 := by omega
    repeat' (first
    | ((with_reducible first | refine optP_id ?_ | refine condP_id ?_ | refine resP_id ?_); conv => { arg 1; simp (disch := first | assumption | omega) only [push_cast, ↓reduceIte, reduceIte, Nat.reduceEqDiff, Nat.reduceAdd, Nat.reduceSub, Nat.reduceMul, Nat.reduceBEq, Int.reduceNeg, e3, e4, e5] }; first | ((with_reducible refine optP_id ?_); refine optP_some ?_) | ((with_reducible refine condP_id ?_); first | refine qcy ?_ | refine qcx ?_ | refine qco ?_ | refine condP_decn (fun hc => ?_) (fun hc => ?_) | refine condP_dec (fun hc => ?_) (fun hc => ?_) | refine qct ?_ | refine qcf ?_ | refine condP_bool (fun hc => ?_) (fun hc => ?_)) | ((with_reducible refine resP_id ?_); refine resP_one ?_))
    | refine wk_seq ?_ | refine wk_region ?_ | refine wk_block ?_ | refine wk_inBlock ?_ | refine wk_skip ?_ | refine wo_nil ?_ | refine wk_exit ?_ | refine exitK_code ?_ | refine exitK_hit ?_ | refine exitK_miss rfl ?_ | refine exitK_inLoop ?_ | refine wk_cond ?_ | refine wk_ret ?_ | refine wk_nil ?_ | refine wo_dst rfl (opR_pure ?_) | refine wo_nodst (opR_pure ?_)
    | refine give_ret ?_ | refine give_end ?_)
    exact next (k - (i + 1)) _ _ (by omega) ⟨i + 1, p * 60, rfl, by omega, by rw [hp, Nat.pow_succ], rfl, by simp (disch := first | assumption | omega) only [push_cast, ↓reduceIte, reduceIte, Nat.reduceEqDiff, Nat.reduceAdd, Nat.reduceSub, Nat.reduceMul, Nat.reduceBEq, Int.reduceNeg, Int.natCast_mul]; rfl, by simp (disch := first | assumption | omega) only [push_cast, ↓reduceIte, reduceIte, Nat.reduceEqDiff, Nat.reduceAdd, Nat.reduceSub, Nat.reduceMul, Nat.reduceBEq, Int.reduceNeg, e4], by simp (disch := first | assumption | omega) only [push_cast, ↓reduceIte, reduceIte, Nat.reduceEqDiff, Nat.reduceAdd, Nat.reduceSub, Nat.reduceMul, Nat.reduceBEq, Int.reduceNeg, Int.natCast_add, Int.natCast_one]⟩
  · have ilt : ¬ (i : Int) < (k : Int) := by omega
    obtain rfl : i = k := by omega
    repeat' (first
    | ((with_reducible first | refine optP_id ?_ | refine condP_id ?_ | refine resP_id ?_); conv => { arg 1; simp (disch := first | assumption | omega) only [push_cast, ↓reduceIte, reduceIte, Nat.reduceEqDiff, Nat.reduceAdd, Nat.reduceSub, Nat.reduceMul, Nat.reduceBEq, Int.reduceNeg, e3, e4, e5] }; first | ((with_reducible refine optP_id ?_); refine optP_some ?_) | ((with_reducible refine condP_id ?_); first | refine qcy ?_ | refine qcx ?_ | refine qco ?_ | refine condP_decn (fun hc => ?_) (fun hc => ?_) | refine condP_dec (fun hc => ?_) (fun hc => ?_) | refine qct ?_ | refine qcf ?_ | refine condP_bool (fun hc => ?_) (fun hc => ?_)) | ((with_reducible refine resP_id ?_); refine resP_one ?_))
    | refine wk_seq ?_ | refine wk_region ?_ | refine wk_block ?_ | refine wk_inBlock ?_ | refine wk_skip ?_ | refine wo_nil ?_ | refine wk_exit ?_ | refine exitK_code ?_ | refine exitK_hit ?_ | refine exitK_miss rfl ?_ | refine exitK_inLoop ?_ | refine wk_cond ?_ | refine wk_ret ?_ | refine wk_nil ?_ | refine wo_dst rfl (opR_pure ?_) | refine wo_nodst (opR_pure ?_)
    | refine give_ret ?_ | refine give_end ?_)
    exact ⟨by rw [hp], rfl⟩
set_option maxRecDepth 100000 in
set_option maxHeartbeats 8000000 in
theorem numofb_w (X : Nat) (hX : X < 60 ^ 10) (h : AHeap) :
    Wc pr (.func 106) [.int .i64 (X : Int)] h fun r h' => r = numV X ∧ Gr h h' := by
  refine wc_func Tryz.func106 rfl rfl rfl rfl ?_
  generalize hZ : ints .u8 (numD 0) = Z
  have zv : zeroV Tryz.prog 87 = some (.agg Z.toArray) := by rw [← hZ]; exact zv87
  repeat' (first
    | ((with_reducible first | refine optP_id ?_ | refine condP_id ?_ | refine resP_id ?_); conv => { arg 1; simp (disch := first | assumption | omega) only [push_cast, ↓reduceIte, reduceIte, Nat.reduceEqDiff, Nat.reduceAdd, Nat.reduceSub, Nat.reduceMul, Nat.reduceBEq, Int.reduceNeg, zv] }; first | ((with_reducible refine optP_id ?_); refine optP_some ?_) | ((with_reducible refine condP_id ?_); first | refine qcy ?_ | refine qcx ?_ | refine qco ?_ | refine condP_decn (fun hc => ?_) (fun hc => ?_) | refine condP_dec (fun hc => ?_) (fun hc => ?_) | refine qct ?_ | refine qcf ?_ | refine condP_bool (fun hc => ?_) (fun hc => ?_)) | ((with_reducible refine resP_id ?_); refine resP_one ?_))
    | refine wk_seq ?_ | refine wk_region ?_ | refine wk_block ?_ | refine wk_inBlock ?_ | refine wk_skip ?_ | refine wo_nil ?_ | refine wk_exit ?_ | refine exitK_code ?_ | refine exitK_hit ?_ | refine exitK_miss rfl ?_ | refine exitK_inLoop ?_ | refine wk_cond ?_ | refine wk_ret ?_ | refine wk_nil ?_ | refine wo_dst rfl (opR_pure ?_) | refine wo_nodst (opR_pure ?_)
    | refine give_ret ?_ | refine give_end ?_)
  refine wk_loop (fun n E H => ∃ (i Y : Nat), n = Y ∧ Y = X / 60 ^ i ∧ H.next = h.next + 1 + 1 ∧ Gr h H ∧ H.get h.next = some (.cells Z 87 true) ∧ H.get (h.next + 1) = some (.cells (ints .u8 (numD (X % 60 ^ i))) 87 true) ∧ E.look 0 top = .int .i64 (Y : Int) ∧ E.look 4 top = .int .i64 (i : Int) ∧ E.look 2 top = .pointer (some ⟨h.next, 0, none⟩) ∧ E.look 3 top = .pointer (some ⟨h.next + 1, 0, none⟩)) X
    ⟨0, X, rfl, by rw [Nat.pow_zero, Nat.div_one], by simp only [next_new], by (repeat (first | exact Gr.refl _ | assumption | (refine Gr.trans ?_ (by assumption)) | refine Gr.set ?_ (by first | exact Nat.le_refl _ | omega | (simp only [next_new, next_set]; omega)) _ | refine Gr.new ?_ _)), by simp (disch := first | assumption | omega) only [push_cast, ↓reduceIte, reduceIte, Nat.reduceEqDiff, Nat.reduceAdd, Nat.reduceSub, Nat.reduceMul, Nat.reduceBEq, Int.reduceNeg], by rw [Nat.pow_zero, Nat.mod_one, hZ]; simp (disch := first | assumption | omega) only [push_cast, ↓reduceIte, reduceIte, Nat.reduceEqDiff, Nat.reduceAdd, Nat.reduceSub, Nat.reduceMul, Nat.reduceBEq, Int.reduceNeg], by simp (disch := first | assumption | omega) only [push_cast, ↓reduceIte, reduceIte, Nat.reduceEqDiff, Nat.reduceAdd, Nat.reduceSub, Nat.reduceMul, Nat.reduceBEq, Int.reduceNeg], (by simp (disch := first | assumption | omega) only [push_cast, ↓reduceIte, reduceIte, Nat.reduceEqDiff, Nat.reduceAdd, Nat.reduceSub, Nat.reduceMul, Nat.reduceBEq, Int.reduceNeg, Int.natCast_zero]), by simp (disch := first | assumption | omega) only [push_cast, ↓reduceIte, reduceIte, Nat.reduceEqDiff, Nat.reduceAdd, Nat.reduceSub, Nat.reduceMul, Nat.reduceBEq, Int.reduceNeg], by simp (disch := first | assumption | omega) only [push_cast, ↓reduceIte, reduceIte, Nat.reduceEqDiff, Nat.reduceAdd, Nat.reduceSub, Nat.reduceMul, Nat.reduceBEq, Int.reduceNeg]⟩ ?_
  rintro n E H ⟨i, Y, rfl, hY, hn, gr, hg0, hg1, e0, e4, e2, e3⟩ next
  by_cases hpos : 0 < n
  · have hi : i < 10 := by
      apply Classical.byContradiction
      intro hh
      have h8 : 60 ^ 10 ≤ 60 ^ i := Nat.pow_le_pow_right (by decide) (by omega)
      have : X / 60 ^ i = 0 := Nat.div_eq_of_lt (by omega)
      omega
    have y0 : (n : Int) > 0 := by omega
    have hle : n ≤ X := by rw [hY]; exact Nat.div_le_self _ _
    have o1 := num_over X i (by omega)
    rw [← hY] at o1
    have em : ((n % 60 : Nat) : Int) = (n : Int) % 60 := by omega
    rw [em] at o1
    have hY' : n / 60 = X / 60 ^ (i + 1) := by rw [hY, Nat.div_div_eq_div_mul, Nat.pow_succ]
    have u1 : (0 : Int) ≤ (n : Int) % 60 := by omega
    have u2 : (n : Int) % 60 ≤ 255 := by omega
    generalize ints .u8 (numD (X % 60 ^ i)) = C at *
    generalize hC' : ints .u8 (numD (X % 60 ^ (i + 1))) = C' at *
    repeat' (first
    | ((with_reducible first | refine optP_id ?_ | refine condP_id ?_ | refine resP_id ?_); conv => { arg 1; simp (disch := first | assumption | omega) only [push_cast, ↓reduceIte, reduceIte, Nat.reduceEqDiff, Nat.reduceAdd, Nat.reduceSub, Nat.reduceMul, Nat.reduceBEq, Int.reduceNeg, e0, e4, e2, e3, hg0, hg1, o1] }; first | ((with_reducible refine optP_id ?_); refine optP_some ?_) | ((with_reducible refine condP_id ?_); first | refine qcy ?_ | refine qcx ?_ | refine qco ?_ | refine condP_decn (fun hc => ?_) (fun hc => ?_) | refine condP_dec (fun hc => ?_) (fun hc => ?_) | refine qct ?_ | refine qcf ?_ | refine condP_bool (fun hc => ?_) (fun hc => ?_)) | ((with_reducible refine resP_id ?_); refine resP_one ?_))
    | refine wk_seq ?_ | refine wk_region ?_ | refine wk_block ?_ | refine wk_inBlock ?_ | refine wk_skip ?_ | refine wo_nil ?_ | refine wk_exit ?_ | refine exitK_code ?_ | refine exitK_hit ?_ | refine exitK_miss rfl ?_ | refine exitK_inLoop ?_ | refine wk_cond ?_ | refine wk_ret ?_ | refine wk_nil ?_ | refine wo_dst rfl (opR_pure ?_) | refine wo_nodst (opR_pure ?_)
    | refine give_ret ?_ | refine give_end ?_)
    exact next (n / 60) _ _ (by omega) ⟨i + 1, n / 60, rfl, hY', by rw [next_set]; exact hn, by (repeat (first | exact Gr.refl _ | assumption | (refine Gr.trans ?_ (by assumption)) | refine Gr.set ?_ (by first | exact Nat.le_refl _ | omega | (simp only [next_new, next_set]; omega)) _ | refine Gr.new ?_ _)), by simp (disch := first | assumption | omega) only [push_cast, ↓reduceIte, reduceIte, Nat.reduceEqDiff, Nat.reduceAdd, Nat.reduceSub, Nat.reduceMul, Nat.reduceBEq, Int.reduceNeg, hg0], by rw [hC']; simp (disch := first | assumption | omega) only [push_cast, ↓reduceIte, reduceIte, Nat.reduceEqDiff, Nat.reduceAdd, Nat.reduceSub, Nat.reduceMul, Nat.reduceBEq, Int.reduceNeg], by rw [show ((n / 60 : Nat) : Int) = (n : Int) / 60 by omega]; simp (disch := first | assumption | omega) only [push_cast, ↓reduceIte, reduceIte, Nat.reduceEqDiff, Nat.reduceAdd, Nat.reduceSub, Nat.reduceMul, Nat.reduceBEq, Int.reduceNeg], by simp (disch := first | assumption | omega) only [push_cast, ↓reduceIte, reduceIte, Nat.reduceEqDiff, Nat.reduceAdd, Nat.reduceSub, Nat.reduceMul, Nat.reduceBEq, Int.reduceNeg, Int.natCast_add, Int.natCast_one], by simp (disch := first | assumption | omega) only [push_cast, ↓reduceIte, reduceIte, Nat.reduceEqDiff, Nat.reduceAdd, Nat.reduceSub, Nat.reduceMul, Nat.reduceBEq, Int.reduceNeg, e2], by simp (disch := first | assumption | omega) only [push_cast, ↓reduceIte, reduceIte, Nat.reduceEqDiff, Nat.reduceAdd, Nat.reduceSub, Nat.reduceMul, Nat.reduceBEq, Int.reduceNeg, e3]⟩
  · have n0 : n = 0 := by omega
    have hlt : X < 60 ^ i := by
      apply Classical.byContradiction
      intro hh
      have : 0 < X / 60 ^ i := Nat.div_pos (by omega) (Nat.pow_pos (by decide))
      omega
    rw [Nat.mod_eq_of_lt hlt] at hg1
    have hcut : takeN 146 (ints .u8 (numD X)) = some (ints .u8 (numD X)) := num_cut X
    have hov : over0 (ints .u8 (numD X)) Z = some (ints .u8 (numD X)) := over_all (by rw [← hZ]; simp [ints, numD_len])
    have hst := storeK_all (num_ne X) (num_len X) (ints_flat _ _) hg0 hov
    have hv : numV X = .agg (ints .u8 (numD X)).toArray := rfl
    rw [hv]
    generalize ints .u8 (numD X) = C at *
    repeat' (first
    | ((with_reducible first | refine optP_id ?_ | refine condP_id ?_ | refine resP_id ?_); conv => { arg 1; simp (disch := first | assumption | omega) only [push_cast, ↓reduceIte, reduceIte, Nat.reduceEqDiff, Nat.reduceAdd, Nat.reduceSub, Nat.reduceMul, Nat.reduceBEq, Int.reduceNeg, e0, e4, e2, e3, hg0, hg1, hcut, hst] }; first | ((with_reducible refine optP_id ?_); refine optP_some ?_) | ((with_reducible refine condP_id ?_); first | refine qcy ?_ | refine qcx ?_ | refine qco ?_ | refine condP_decn (fun hc => ?_) (fun hc => ?_) | refine condP_dec (fun hc => ?_) (fun hc => ?_) | refine qct ?_ | refine qcf ?_ | refine condP_bool (fun hc => ?_) (fun hc => ?_)) | ((with_reducible refine resP_id ?_); refine resP_one ?_))
    | refine wk_seq ?_ | refine wk_region ?_ | refine wk_block ?_ | refine wk_inBlock ?_ | refine wk_skip ?_ | refine wo_nil ?_ | refine wk_exit ?_ | refine exitK_code ?_ | refine exitK_hit ?_ | refine exitK_miss rfl ?_ | refine exitK_inLoop ?_ | refine wk_cond ?_ | refine wk_ret ?_ | refine wk_nil ?_ | refine wo_dst rfl (opR_pure ?_) | refine wo_nodst (opR_pure ?_)
    | refine give_ret ?_ | refine give_end ?_)
    exact ⟨rfl, by (repeat (first | exact Gr.refl _ | assumption | (refine Gr.trans ?_ (by assumption)) | refine Gr.set ?_ (by first | exact Nat.le_refl _ | omega | (simp only [next_new, next_set]; omega)) _ | refine Gr.new ?_ _))⟩
/-- a place-value number: X times 60 to the power s -/
def plR (X : Nat) (s : Int) (v : Value) (sh : Int) (H : AHeap) : Prop := (X = 0 ∧ v = .slice none 0 0 ∧ sh = 0) ∨ (X ≠ 0 ∧ ∃ d e, IIn H v d ∧ valid d ∧ d ≠ [] ∧ valN d * 60 ^ e = X ∧ sh = s + ((e : Nat) : Int) ∧ d.length ≤ 1000)
theorem plR.gr {X : Nat} {s sh : Int} {v : Value} {H H' : AHeap} (p : plR X s v sh H) (g : Gr H H') : plR X s v sh H' := by
  rcases p with p | ⟨p, d, e, i, q⟩
  · exact .inl p
  · exact .inr ⟨p, d, e, SlIn.gr i g, q⟩
theorem plR.list {X : Nat} {s sh : Int} {v : Value} {H : AHeap} (p : plR X s v sh H) : ∃ d a c, v = .slice a d.length c ∧ IIn H (.slice a d.length c) d ∧ okC (.slice a d.length c) = true := by
  rcases p with ⟨_, rfl, _⟩ | ⟨_, d, _, i, _, hn, _⟩
  · exact ⟨[], none, 0, rfl, ⟨none, 0, rfl, Nat.zero_le _, fun h => absurd rfl h⟩, rfl⟩
  · obtain ⟨a, c, rfl, _, hv⟩ := id i
    obtain ⟨b, off, _, _, rfl, _⟩ := hv hn
    exact ⟨d, _, c, rfl, i, rfl⟩
end Go.Proofs.YtelepfablohdmaaGreatDoor
