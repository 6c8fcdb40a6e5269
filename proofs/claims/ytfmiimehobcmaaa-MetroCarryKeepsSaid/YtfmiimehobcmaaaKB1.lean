/- Contracts of MetroCarryKeeps. -/
import Derived.Test.YtfmiimehobcmaaaKA
import Derived.Test.YtfmiimehobcmaaaW11
import Derived.Test.YtfmiimehobcmaaaB1
set_option linter.unusedSimpArgs false
set_option linter.unusedVariables false
/- Contracts: Carry, the program's and the reference's; CopyInts. -/
namespace Go.Proofs.Ytfmiimehobcmaaa
open Go.Ev
/-- the carry into unit k -/
def carS (us : Us) (cs : List Int) : Nat → Int
  | 0 => 0
  | k + 1 => (carS us cs k + cs[k]?.getD 0) / facU us (k + 1)
def carL (us : Us) (cs : List Int) (k : Nat) : List Int := (List.range k).map fun i => carS us cs (i + 1)
theorem carL_len (us : Us) (cs : List Int) (k : Nat) : (carL us cs k).length = k := by simp [carL]
theorem carL_succ (us : Us) (cs : List Int) (k : Nat) : carL us cs (k + 1) = carL us cs k ++ [carS us cs (k + 1)] := by simp [carL, List.range_succ]
theorem carS_bd {us : Us} {cs : List Int} (hf : ∀ i, 1 ≤ facU us i) (hc : ∀ k : Nat, 0 ≤ cs[k]?.getD 0 ∧ cs[k]?.getD 0 ≤ 1099511627776) : ∀ k : Nat, 0 ≤ carS us cs k ∧ carS us cs k ≤ (k : Int) * 1099511627776
  | 0 => ⟨by show (0 : Int) ≤ 0; omega, by show (0 : Int) ≤ _; omega⟩
  | k + 1 => by
    have ih := carS_bd hf hc k
    have h1 := hc k
    have h2 := nn_div (a := carS us cs k + cs[k]?.getD 0) (b := facU us (k + 1)) (by omega) (hf _)
    show 0 ≤ (carS us cs k + cs[k]?.getD 0) / facU us (k + 1) ∧ (carS us cs k + cs[k]?.getD 0) / facU us (k + 1) ≤ _
    omega
theorem tot_bd {us : Us} {cs : List Int} (hv : ∀ k, k < us.length → 1 ≤ valU (us.take (k + 1))) (hn : ∀ x ∈ cs, 0 ≤ x) (hle : cs.length ≤ us.length) : ∀ k t, k ≤ cs.length → totS us cs k = some t → (0 ≤ t ∧ t ≤ 1099511627776) ∧ ∀ i, i < k → 0 ≤ cs[i]?.getD 0 ∧ cs[i]?.getD 0 ≤ 1099511627776
  | 0, t, _, h => by
    cases h
    exact ⟨by decide, fun i hi => absurd hi (Nat.not_lt_zero i)⟩
  | k + 1, t, hk, h => by
    cases ht : totS us cs k with
    | none => rw [totS_none ht (Nat.le_succ k)] at h; cases h
    | some t' =>
      obtain ⟨⟨a1, a2⟩, a3⟩ := tot_bd hv hn hle k t' (by omega) ht
      rw [totS_succ ht (by omega)] at h
      have V1 := hv k (by omega)
      have c0 := hn _ (List.getElem_mem (show k < cs.length by omega))
      by_cases y : (1099511627776 - t') / valU (us.take (k + 1)) < cs[k]
      · rw [if_pos y] at h; cases h
      · rw [if_neg y] at h
        cases h
        have bd := step_bd a1 a2 V1 c0 y
        have d1 := nn_div (a := 1099511627776 - t') (by omega) V1
        refine ⟨by omega, fun i hi => ?_⟩
        by_cases e : i = k
        · subst e
          rw [List.getElem?_eq_getElem (by omega)]
          show 0 ≤ cs[i] ∧ cs[i] ≤ _
          omega
        · exact a3 i (by omega)

/-- what Carry returns -/
def carR (nm : ByteArray) (us : Us) (cs : List Int) (h : AHeap) (r : Value) : Prop :=
  ((totF nm us cs).2 ≠ 0 ∧ r = .tuple #[.slice none 0 0, .slice none 0 0, .int .i64 (totF nm us cs).2]) ∨
  ((totF nm us cs).2 = 0 ∧ us.length ≤ 12 ∧ ∃ v w, r = .tuple #[v, w, .int .i64 0] ∧ IIn h v (splitL us (totF nm us cs).1) ∧ IIn h w (carL us cs (us.length - 1)))
theorem totF_zero {nm : ByteArray} {us : Us} {cs : List Int} (h : (totF nm us cs).2 = 0) : ladOk nm us ∧ cs.length ≤ us.length ∧ ¬ hasN cs ∧ totS us cs cs.length = some (totF nm us cs).1 := by
  by_cases zE : totE nm us cs = 0
  · have zl : ladOk nm us := Classical.byContradiction fun z => by rw [totE_lad z] at zE; exact absurd zE (by decide)
    have zc : cs.length ≤ us.length := Classical.byContradiction fun z => by rw [totE_len zl z] at zE; exact absurd zE (by decide)
    have zn : ¬ hasN cs := fun z => by rw [totE_neg zl zc z] at zE; exact absurd zE (by decide)
    refine ⟨zl, zc, zn, ?_⟩
    rw [totF_ok zE] at h ⊢
    cases ht : totS us cs cs.length with
    | none => rw [ht] at h; exact absurd h (by decide)
    | some t => rfl
  · rw [totF_err rfl zE] at h
    exact absurd h zE
theorem splitE_ok {nm : ByteArray} {us : Us} {n : Int} (z : ladOk nm us) (h0 : 0 ≤ n) (h1 : n ≤ 1099511627776) : splitE nm us n = 0 := by
  unfold splitE; rw [ladE_yes z]; simp [rngE, h0, h1]

/-- all that a good total gives -/
theorem tot_good {nm : ByteArray} {us : Us} {cs : List Int} (h : (totF nm us cs).2 = 0) : ladOk nm us ∧ cs.length ≤ us.length ∧ us.length ≤ 12 ∧ 1 ≤ us.length ∧ 0 ≤ (totF nm us cs).1 ∧ (totF nm us cs).1 ≤ 1099511627776 ∧ (∀ k : Nat, 0 ≤ cs[k]?.getD 0 ∧ cs[k]?.getD 0 ≤ 1099511627776) ∧ (∀ i, 1 ≤ facU us i) ∧ (∀ k : Nat, 0 ≤ carS us cs k ∧ carS us cs k ≤ (k : Int) * 1099511627776) := by
  obtain ⟨zl, zc, zn, ht⟩ := totF_zero h
  have fc := ladOk_fac zl
  have hb := tot_bd (us := us) (cs := cs) (fun k hk => valU_pos (by omega) (fun i hi _ => (facAt_bd (fc i hi)).1)) (fun x hx => Classical.byContradiction fun hn => zn ⟨x, hx, by omega⟩) zc _ _ (Nat.le_refl _) ht
  have hc : ∀ k : Nat, 0 ≤ cs[k]?.getD 0 ∧ cs[k]?.getD 0 ≤ 1099511627776 := fun k => by
    rcases Nat.lt_or_ge k cs.length with hk | hk
    · exact hb.2 k hk
    · rw [List.getElem?_eq_none hk]; exact ⟨by show (0 : Int) ≤ 0; omega, by show (0 : Int) ≤ _; omega⟩
  have hf : ∀ i, 1 ≤ facU us i := fun i => by
    rcases Nat.lt_or_ge i us.length with hi | hi
    · rw [facU_at hi]; exact (facAt_bd (fc i hi)).1
    · unfold facU; rw [List.getElem?_eq_none hi]; show (1 : Int) ≤ 1; omega
  exact ⟨zl, zc, zl.2.2.1, zl.2.1, hb.1.1, hb.1.2, hc, hf, carS_bd hf hc⟩

set_option maxRecDepth 100000 in
set_option maxHeartbeats 16000000 in
theorem carry_w (nm : ByteArray) (us : Us) (cs : List Int) (v u : Value) (h : AHeap) (hv : UIn h v us) (ho : okC v = true) (hu : IIn h u cs) (hl : us.length ≤ 9223372036854775807) (hl2 : cs.length ≤ 4611686018427387904) :
    Wc pr (.func 54) [.agg #[.string nm, v], u] h fun r h' => carR nm us cs h' r ∧ Gr h h' := by
  have hv0 := hv
  have hu0 := hu
  obtain ⟨a, c, rfl, hc, hv⟩ := hv
  obtain ⟨a', c', rfl, hc', hu⟩ := hu
  refine wc_func Try.func54 rfl rfl rfl rfl ?_
  repeat' (first
    | ((with_reducible refine optP_id ?_); conv => { arg 1; simp (disch := first | assumption | omega) only [push_cast, ↓reduceIte, reduceIte, Nat.reduceEqDiff, Nat.reduceAdd, Nat.reduceSub, Nat.reduceMul, Nat.reduceBEq, Int.reduceNeg] }; refine optP_some ?_)
    | ((with_reducible refine condP_id ?_); conv => { arg 1; simp (disch := first | assumption | omega) only [push_cast, ↓reduceIte, reduceIte, Nat.reduceEqDiff, Nat.reduceAdd, Nat.reduceSub, Nat.reduceMul, Nat.reduceBEq, Int.reduceNeg] }; first | refine condP_yes (by first | assumption | exact fun hn => hn (by assumption) | omega | decide) ?_ | refine condP_non (by assumption) ?_ | refine condP_no (by first | assumption | omega | decide) ?_ | refine condP_decn (fun hc => ?_) (fun hc => ?_) | refine condP_dec (fun hc => ?_) (fun hc => ?_) | refine condP_true (by first | assumption | rfl) ?_ | refine condP_false (by first | assumption | rfl) ?_ | refine condP_bool (fun hc => ?_) (fun hc => ?_))
    | ((with_reducible refine condO_id ?_); conv => { arg 1; simp (disch := first | assumption | omega) only [push_cast, ↓reduceIte, reduceIte, Nat.reduceEqDiff, Nat.reduceAdd, Nat.reduceSub, Nat.reduceMul, Nat.reduceBEq, Int.reduceNeg] }; refine condO_some ?_)
    | ((with_reducible refine callP_id ?_); conv => { arg 2; simp (disch := first | assumption | omega) only [push_cast, ↓reduceIte, reduceIte, Nat.reduceEqDiff, Nat.reduceAdd, Nat.reduceSub, Nat.reduceMul, Nat.reduceBEq, Int.reduceNeg] }; conv => { arg 3; simp (disch := first | assumption | omega) only [push_cast, ↓reduceIte, reduceIte, Nat.reduceEqDiff, Nat.reduceAdd, Nat.reduceSub, Nat.reduceMul, Nat.reduceBEq, Int.reduceNeg] }; first | refine callP_plain ?_ | refine callP_yield ?_ | (refine callP_func ?_; conv => { arg 3; simp only [push_cast] }))
    | ((with_reducible refine resP_id ?_); conv => { arg 1; simp (disch := first | assumption | omega) only [push_cast, ↓reduceIte, reduceIte, Nat.reduceEqDiff, Nat.reduceAdd, Nat.reduceSub, Nat.reduceMul, Nat.reduceBEq, Int.reduceNeg] }; first | refine resP_one ?_ | refine resP_two ?_ | refine resP_three ?_ | refine resP_zero ?_)
    | refine wk_seq ?_ | refine wk_block ?_ | refine wk_scope ?_ | refine wk_inBlock ?_ | refine wk_inScope ?_ | refine wk_skip ?_ | refine wk_label ?_ | refine wk_region ?_ | refine wk_draw (by kernel_rfl) (by decide +kernel) ?_ | refine wo_nil ?_ | refine wk_exit ?_ | refine exitK_code ?_ | refine exitK_hit ?_ | refine exitK_miss rfl ?_ | refine exitK_inLoop ?_ | refine exitK_inScope ?_ | refine wk_cond ?_ | refine wk_ret ?_ | refine wk_nil ?_ | refine wo_dst rfl (opR_call ?_) | refine wo_nodst (opR_call ?_) | refine wo_dst rfl (opR_pick ?_) | refine wo_guard rfl rfl ?_ | refine wo_guardn rfl ?_ | refine wo_dst rfl (opR_pure ?_) | refine wo_nodst (opR_pure ?_)
    | refine give_ret ?_ | refine give_end ?_)
  refine (total_w nm us cs _ _ _ (SlIn.gr hv0 (by (repeat (first | exact Gr.refl _ | assumption | (refine Gr.trans ?_ (by assumption)) | refine Gr.set ?_ (by first | exact Nat.le_refl _ | omega | (simp only [next_new, next_set]; omega)) _ | refine Gr.new ?_ _)))) ho (SlIn.gr hu0 (by (repeat (first | exact Gr.refl _ | assumption | (refine Gr.trans ?_ (by assumption)) | refine Gr.set ?_ (by first | exact Nat.le_refl _ | omega | (simp only [next_new, next_set]; omega)) _ | refine Gr.new ?_ _)))) hl hl2).mono ?_
  rintro _ h1 ⟨rfl, g1⟩; have n1 := g1.1; have k1 := g1.2; try simp only [next_new, next_set] at n1 k1
  by_cases z : (totF nm us cs).2 = 0
  case neg =>
    repeat' (first
    | ((with_reducible refine optP_id ?_); conv => { arg 1; simp (disch := first | assumption | omega) only [push_cast, ↓reduceIte, reduceIte, Nat.reduceEqDiff, Nat.reduceAdd, Nat.reduceSub, Nat.reduceMul, Nat.reduceBEq, Int.reduceNeg, k1] }; refine optP_some ?_)
    | ((with_reducible refine condP_id ?_); conv => { arg 1; simp (disch := first | assumption | omega) only [push_cast, ↓reduceIte, reduceIte, Nat.reduceEqDiff, Nat.reduceAdd, Nat.reduceSub, Nat.reduceMul, Nat.reduceBEq, Int.reduceNeg, k1] }; first | refine condP_yes (by first | assumption | exact fun hn => hn (by assumption) | omega | decide) ?_ | refine condP_non (by assumption) ?_ | refine condP_no (by first | assumption | omega | decide) ?_ | refine condP_decn (fun hc => ?_) (fun hc => ?_) | refine condP_dec (fun hc => ?_) (fun hc => ?_) | refine condP_true (by first | assumption | rfl) ?_ | refine condP_false (by first | assumption | rfl) ?_ | refine condP_bool (fun hc => ?_) (fun hc => ?_))
    | ((with_reducible refine condO_id ?_); conv => { arg 1; simp (disch := first | assumption | omega) only [push_cast, ↓reduceIte, reduceIte, Nat.reduceEqDiff, Nat.reduceAdd, Nat.reduceSub, Nat.reduceMul, Nat.reduceBEq, Int.reduceNeg, k1] }; refine condO_some ?_)
    | ((with_reducible refine callP_id ?_); conv => { arg 2; simp (disch := first | assumption | omega) only [push_cast, ↓reduceIte, reduceIte, Nat.reduceEqDiff, Nat.reduceAdd, Nat.reduceSub, Nat.reduceMul, Nat.reduceBEq, Int.reduceNeg, k1] }; conv => { arg 3; simp (disch := first | assumption | omega) only [push_cast, ↓reduceIte, reduceIte, Nat.reduceEqDiff, Nat.reduceAdd, Nat.reduceSub, Nat.reduceMul, Nat.reduceBEq, Int.reduceNeg, k1] }; first | refine callP_plain ?_ | refine callP_yield ?_ | (refine callP_func ?_; conv => { arg 3; simp only [push_cast] }))
    | ((with_reducible refine resP_id ?_); conv => { arg 1; simp (disch := first | assumption | omega) only [push_cast, ↓reduceIte, reduceIte, Nat.reduceEqDiff, Nat.reduceAdd, Nat.reduceSub, Nat.reduceMul, Nat.reduceBEq, Int.reduceNeg, k1] }; first | refine resP_one ?_ | refine resP_two ?_ | refine resP_three ?_ | refine resP_zero ?_)
    | refine wk_seq ?_ | refine wk_block ?_ | refine wk_scope ?_ | refine wk_inBlock ?_ | refine wk_inScope ?_ | refine wk_skip ?_ | refine wk_label ?_ | refine wk_region ?_ | refine wk_draw (by kernel_rfl) (by decide +kernel) ?_ | refine wo_nil ?_ | refine wk_exit ?_ | refine exitK_code ?_ | refine exitK_hit ?_ | refine exitK_miss rfl ?_ | refine exitK_inLoop ?_ | refine exitK_inScope ?_ | refine wk_cond ?_ | refine wk_ret ?_ | refine wk_nil ?_ | refine wo_dst rfl (opR_call ?_) | refine wo_nodst (opR_call ?_) | refine wo_dst rfl (opR_pick ?_) | refine wo_guard rfl rfl ?_ | refine wo_guardn rfl ?_ | refine wo_dst rfl (opR_pure ?_) | refine wo_nodst (opR_pure ?_)
    | refine give_ret ?_ | refine give_end ?_)
    exact ⟨.inl ⟨z, rfl⟩, by (repeat (first | exact Gr.refl _ | assumption | (refine Gr.trans ?_ (by assumption)) | refine Gr.set ?_ (by first | exact Nat.le_refl _ | omega | (simp only [next_new, next_set]; omega)) _ | refine Gr.new ?_ _))⟩
  obtain ⟨zl, zc, l12, l1, t0, t1, hcb, hfb, hcar⟩ := tot_good z
  have fc := ladOk_fac zl
  have hT : ∀ h' w1 w2, IIn h' w1 (splitL us (totF nm us cs).1) → IIn h' w2 (carL us cs (us.length - 1)) → carR nm us cs h' (.tuple #[w1, w2, .int .i64 0]) := fun h' w1 w2 q1 q2 => .inr ⟨z, l12, w1, w2, rfl, q1, q2⟩
  rw [z]
  generalize (totF nm us cs).1 = T at *
  repeat' (first
    | ((with_reducible refine optP_id ?_); conv => { arg 1; simp (disch := first | assumption | omega) only [push_cast, ↓reduceIte, reduceIte, Nat.reduceEqDiff, Nat.reduceAdd, Nat.reduceSub, Nat.reduceMul, Nat.reduceBEq, Int.reduceNeg, k1] }; refine optP_some ?_)
    | ((with_reducible refine condP_id ?_); conv => { arg 1; simp (disch := first | assumption | omega) only [push_cast, ↓reduceIte, reduceIte, Nat.reduceEqDiff, Nat.reduceAdd, Nat.reduceSub, Nat.reduceMul, Nat.reduceBEq, Int.reduceNeg, k1] }; first | refine condP_yes (by first | assumption | exact fun hn => hn (by assumption) | omega | decide) ?_ | refine condP_non (by assumption) ?_ | refine condP_no (by first | assumption | omega | decide) ?_ | refine condP_decn (fun hc => ?_) (fun hc => ?_) | refine condP_dec (fun hc => ?_) (fun hc => ?_) | refine condP_true (by first | assumption | rfl) ?_ | refine condP_false (by first | assumption | rfl) ?_ | refine condP_bool (fun hc => ?_) (fun hc => ?_))
    | ((with_reducible refine condO_id ?_); conv => { arg 1; simp (disch := first | assumption | omega) only [push_cast, ↓reduceIte, reduceIte, Nat.reduceEqDiff, Nat.reduceAdd, Nat.reduceSub, Nat.reduceMul, Nat.reduceBEq, Int.reduceNeg, k1] }; refine condO_some ?_)
    | ((with_reducible refine callP_id ?_); conv => { arg 2; simp (disch := first | assumption | omega) only [push_cast, ↓reduceIte, reduceIte, Nat.reduceEqDiff, Nat.reduceAdd, Nat.reduceSub, Nat.reduceMul, Nat.reduceBEq, Int.reduceNeg, k1] }; conv => { arg 3; simp (disch := first | assumption | omega) only [push_cast, ↓reduceIte, reduceIte, Nat.reduceEqDiff, Nat.reduceAdd, Nat.reduceSub, Nat.reduceMul, Nat.reduceBEq, Int.reduceNeg, k1] }; first | refine callP_plain ?_ | refine callP_yield ?_ | (refine callP_func ?_; conv => { arg 3; simp only [push_cast] }))
    | ((with_reducible refine resP_id ?_); conv => { arg 1; simp (disch := first | assumption | omega) only [push_cast, ↓reduceIte, reduceIte, Nat.reduceEqDiff, Nat.reduceAdd, Nat.reduceSub, Nat.reduceMul, Nat.reduceBEq, Int.reduceNeg, k1] }; first | refine resP_one ?_ | refine resP_two ?_ | refine resP_three ?_ | refine resP_zero ?_)
    | refine wk_seq ?_ | refine wk_block ?_ | refine wk_scope ?_ | refine wk_inBlock ?_ | refine wk_inScope ?_ | refine wk_skip ?_ | refine wk_label ?_ | refine wk_region ?_ | refine wk_draw (by kernel_rfl) (by decide +kernel) ?_ | refine wo_nil ?_ | refine wk_exit ?_ | refine exitK_code ?_ | refine exitK_hit ?_ | refine exitK_miss rfl ?_ | refine exitK_inLoop ?_ | refine exitK_inScope ?_ | refine wk_cond ?_ | refine wk_ret ?_ | refine wk_nil ?_ | refine wo_dst rfl (opR_call ?_) | refine wo_nodst (opR_call ?_) | refine wo_dst rfl (opR_pick ?_) | refine wo_guard rfl rfl ?_ | refine wo_guardn rfl ?_ | refine wo_dst rfl (opR_pure ?_) | refine wo_nodst (opR_pure ?_)
    | refine give_ret ?_ | refine give_end ?_)
  refine (split_w nm us T _ _ (SlIn.gr hv0 (by (repeat (first | exact Gr.refl _ | assumption | (refine Gr.trans ?_ (by assumption)) | refine Gr.set ?_ (by first | exact Nat.le_refl _ | omega | (simp only [next_new, next_set]; omega)) _ | refine Gr.new ?_ _)))) hl).mono ?_
  rintro _ h2 ⟨hres, g2⟩; have n2 := g2.1; have k2 := g2.2; try simp only [next_new, next_set] at n2 k2
  rcases hres with ⟨hb, _⟩ | ⟨_, _, _, _, w1, rfl, hw1⟩
  · exact absurd (splitE_ok zl t0 t1) hb
  obtain ⟨w', hsl, hin'⟩ := slice_from hv0 (j := 1) l1
  have hdl : (us.drop 1).length = us.length - 1 := List.length_drop
  obtain ⟨ad, cd, rfl, hcd, hd⟩ := hin'
  have gA : Gr h h2 := Gr.trans (h' := h1) (by (repeat (first | exact Gr.refl _ | assumption | (refine Gr.trans ?_ (by assumption)) | refine Gr.set ?_ (by first | exact Nat.le_refl _ | omega | (simp only [next_new, next_set]; omega)) _ | refine Gr.new ?_ _))) g2
  have hsl2 : sliceSl h2 94 2 (.slice a us.length c) (some (.int .i64 1)) none none = some (.slice ad (us.drop 1).length cd, h2) := hsl _ gA
  rw [hdl] at hsl2
  repeat' (first
    | ((with_reducible refine optP_id ?_); conv => { arg 1; simp (disch := first | assumption | omega) only [push_cast, ↓reduceIte, reduceIte, Nat.reduceEqDiff, Nat.reduceAdd, Nat.reduceSub, Nat.reduceMul, Nat.reduceBEq, Int.reduceNeg, k1, k2, hsl2] }; refine optP_some ?_)
    | ((with_reducible refine condP_id ?_); conv => { arg 1; simp (disch := first | assumption | omega) only [push_cast, ↓reduceIte, reduceIte, Nat.reduceEqDiff, Nat.reduceAdd, Nat.reduceSub, Nat.reduceMul, Nat.reduceBEq, Int.reduceNeg, k1, k2, hsl2] }; first | refine condP_yes (by first | assumption | exact fun hn => hn (by assumption) | omega | decide) ?_ | refine condP_non (by assumption) ?_ | refine condP_no (by first | assumption | omega | decide) ?_ | refine condP_decn (fun hc => ?_) (fun hc => ?_) | refine condP_dec (fun hc => ?_) (fun hc => ?_) | refine condP_true (by first | assumption | rfl) ?_ | refine condP_false (by first | assumption | rfl) ?_ | refine condP_bool (fun hc => ?_) (fun hc => ?_))
    | ((with_reducible refine condO_id ?_); conv => { arg 1; simp (disch := first | assumption | omega) only [push_cast, ↓reduceIte, reduceIte, Nat.reduceEqDiff, Nat.reduceAdd, Nat.reduceSub, Nat.reduceMul, Nat.reduceBEq, Int.reduceNeg, k1, k2, hsl2] }; refine condO_some ?_)
    | ((with_reducible refine callP_id ?_); conv => { arg 2; simp (disch := first | assumption | omega) only [push_cast, ↓reduceIte, reduceIte, Nat.reduceEqDiff, Nat.reduceAdd, Nat.reduceSub, Nat.reduceMul, Nat.reduceBEq, Int.reduceNeg, k1, k2, hsl2] }; conv => { arg 3; simp (disch := first | assumption | omega) only [push_cast, ↓reduceIte, reduceIte, Nat.reduceEqDiff, Nat.reduceAdd, Nat.reduceSub, Nat.reduceMul, Nat.reduceBEq, Int.reduceNeg, k1, k2, hsl2] }; first | refine callP_plain ?_ | refine callP_yield ?_ | (refine callP_func ?_; conv => { arg 3; simp only [push_cast] }))
    | ((with_reducible refine resP_id ?_); conv => { arg 1; simp (disch := first | assumption | omega) only [push_cast, ↓reduceIte, reduceIte, Nat.reduceEqDiff, Nat.reduceAdd, Nat.reduceSub, Nat.reduceMul, Nat.reduceBEq, Int.reduceNeg, k1, k2, hsl2] }; first | refine resP_one ?_ | refine resP_two ?_ | refine resP_three ?_ | refine resP_zero ?_)
    | refine wk_seq ?_ | refine wk_block ?_ | refine wk_scope ?_ | refine wk_inBlock ?_ | refine wk_inScope ?_ | refine wk_skip ?_ | refine wk_label ?_ | refine wk_region ?_ | refine wk_draw (by kernel_rfl) (by decide +kernel) ?_ | refine wo_nil ?_ | refine wk_exit ?_ | refine exitK_code ?_ | refine exitK_hit ?_ | refine exitK_miss rfl ?_ | refine exitK_inLoop ?_ | refine exitK_inScope ?_ | refine wk_cond ?_ | refine wk_ret ?_ | refine wk_nil ?_ | refine wo_dst rfl (opR_call ?_) | refine wo_nodst (opR_call ?_) | refine wo_dst rfl (opR_pick ?_) | refine wo_guard rfl rfl ?_ | refine wo_guardn rfl ?_ | refine wo_dst rfl (opR_pure ?_) | refine wo_nodst (opR_pure ?_)
    | refine give_ret ?_ | refine give_end ?_)
  refine wk_loop (fun m E H => ∃ k b : Nat, m = us.length - 1 - k ∧ k ≤ us.length - 1 ∧ Gr h2 H ∧ E.look 1 top = .slice a' cs.length c' ∧ E.look 4 top = w1 ∧ E.look 6 top = .int .i64 0 ∧ E.look 5 top = .slice (ownB (carL us cs k) b) (carL us cs k).length (carL us cs k).length ∧ (carL us cs k ≠ [] → h2.next ≤ b ∧ b < H.next ∧ H.get b = some (.cells (flatE encI (carL us cs k)) 3 true)) ∧ E.look 8 top = .int .i64 (carS us cs k) ∧ E.look 28 top = .slice ad (us.length - 1) cd ∧ E.look 29 top = .int .i64 ((us.length - 1 : Nat) : Int) ∧ E.look 30 top = .int .i64 (k : Int)) (us.length - 1)
    ⟨0, 0, by omega, by omega, by (repeat (first | exact Gr.refl _ | assumption | (refine Gr.trans ?_ (by assumption)) | refine Gr.set ?_ (by first | exact Nat.le_refl _ | omega | (simp only [next_new, next_set]; omega)) _ | refine Gr.new ?_ _)), by simp (disch := first | assumption | omega) only [push_cast, ↓reduceIte, reduceIte, Nat.reduceEqDiff, Nat.reduceAdd, Nat.reduceSub, Nat.reduceMul, Nat.reduceBEq, Int.reduceNeg], by simp (disch := first | assumption | omega) only [push_cast, ↓reduceIte, reduceIte, Nat.reduceEqDiff, Nat.reduceAdd, Nat.reduceSub, Nat.reduceMul, Nat.reduceBEq, Int.reduceNeg], by simp (disch := first | assumption | omega) only [push_cast, ↓reduceIte, reduceIte, Nat.reduceEqDiff, Nat.reduceAdd, Nat.reduceSub, Nat.reduceMul, Nat.reduceBEq, Int.reduceNeg], (by simp (disch := first | assumption | omega) only [push_cast, ↓reduceIte, reduceIte, Nat.reduceEqDiff, Nat.reduceAdd, Nat.reduceSub, Nat.reduceMul, Nat.reduceBEq, Int.reduceNeg]; rfl), fun h => absurd rfl h, (by simp (disch := first | assumption | omega) only [push_cast, ↓reduceIte, reduceIte, Nat.reduceEqDiff, Nat.reduceAdd, Nat.reduceSub, Nat.reduceMul, Nat.reduceBEq, Int.reduceNeg]; rfl), by simp (disch := first | assumption | omega) only [push_cast, ↓reduceIte, reduceIte, Nat.reduceEqDiff, Nat.reduceAdd, Nat.reduceSub, Nat.reduceMul, Nat.reduceBEq, Int.reduceNeg], by simp (disch := first | assumption | omega) only [push_cast, ↓reduceIte, reduceIte, Nat.reduceEqDiff, Nat.reduceAdd, Nat.reduceSub, Nat.reduceMul, Nat.reduceBEq, Int.reduceNeg], by simp (disch := first | assumption | omega) only [push_cast, ↓reduceIte, reduceIte, Nat.reduceEqDiff, Nat.reduceAdd, Nat.reduceSub, Nat.reduceMul, Nat.reduceBEq, Int.reduceNeg, Int.natCast_zero]⟩ ?_
  rintro m E H ⟨k, bl, rfl, hk, gr, e1, e4, e6, e5, hown, e8, e28, e29, e30⟩ next
  have g0 := gr.1
  have gA0 := gA.1
  by_cases hlt : k < us.length - 1
  · have hku : k + 1 < us.length := by omega
    obtain ⟨b, off, cl, rw', rfl, hb, hgb, hat⟩ := hd (by intro h; rw [h] at hdl; simp at hdl; omega)
    have hgb' : H.get b = some (.cells cl 94 rw') := by rw [gr.2 b (by omega), gA.2 b hb]; exact hgb
    have hck := hat k (by rw [hdl]; exact hlt)
    rw [encU_eq, List.getElem_drop, show us[1 + k] = us[k + 1] from by congr 1; omega] at hck
    have hvl := carL_len us cs k
    have hvs := carL_succ us cs k
    have hc1 := hcar k
    have hcs : carS us cs (k + 1) = (carS us cs k + cs[k]?.getD 0) / us[k + 1].2 := by rw [← facU_at hku]; rfl
    have hf1 := (facAt_bd (fc (k + 1) hku)).1
    have hcb1 := hcb k
    rw [hcs] at hvs
    generalize carS us cs k = C at *
    have f0 : us[k + 1].2 ≠ 0 := by omega
    by_cases y : k < cs.length
    · have yy : (k : Int) < (cs.length : Int) := by omega
      obtain ⟨b2, off2, cl2, rw2, rfl, hb2, hgb2, hat2⟩ := hu (by intro h; rw [h] at y; exact absurd y (Nat.not_lt_zero k))
      have hgb2' : H.get b2 = some (.cells cl2 3 rw2) := by rw [gr.2 b2 (by omega), gA.2 b2 hb2]; exact hgb2
      have h0 := at_cut1 _ _ _ (hat2 k y)
      rw [Nat.mul_one] at h0
      rw [List.getElem?_eq_getElem y] at hvs hcb1 hcs
      simp only [Option.getD_some] at hvs hcb1 hcs
      have d1 := nn_div (a := C + cs[k]) (by omega) hf1
      have p0 : 0 ≤ C + cs[k] := by omega
      repeat' (first
    | ((with_reducible refine optP_id ?_); conv => { arg 1; simp (disch := first | assumption | omega) only [push_cast, ↓reduceIte, reduceIte, Nat.reduceEqDiff, Nat.reduceAdd, Nat.reduceSub, Nat.reduceMul, Nat.reduceBEq, Int.reduceNeg, e1, e4, e6, e5, e8, e28, e29, e30, hgb', hck, hgb2', h0, Nat.mul_one, bsI] }; refine optP_some ?_)
    | ((with_reducible refine condP_id ?_); conv => { arg 1; simp (disch := first | assumption | omega) only [push_cast, ↓reduceIte, reduceIte, Nat.reduceEqDiff, Nat.reduceAdd, Nat.reduceSub, Nat.reduceMul, Nat.reduceBEq, Int.reduceNeg, e1, e4, e6, e5, e8, e28, e29, e30, hgb', hck, hgb2', h0, Nat.mul_one, bsI] }; first | refine condP_yes (by first | assumption | exact fun hn => hn (by assumption) | omega | decide) ?_ | refine condP_non (by assumption) ?_ | refine condP_no (by first | assumption | omega | decide) ?_ | refine condP_decn (fun hc => ?_) (fun hc => ?_) | refine condP_dec (fun hc => ?_) (fun hc => ?_) | refine condP_true (by first | assumption | rfl) ?_ | refine condP_false (by first | assumption | rfl) ?_ | refine condP_bool (fun hc => ?_) (fun hc => ?_))
    | ((with_reducible refine condO_id ?_); conv => { arg 1; simp (disch := first | assumption | omega) only [push_cast, ↓reduceIte, reduceIte, Nat.reduceEqDiff, Nat.reduceAdd, Nat.reduceSub, Nat.reduceMul, Nat.reduceBEq, Int.reduceNeg, e1, e4, e6, e5, e8, e28, e29, e30, hgb', hck, hgb2', h0, Nat.mul_one, bsI] }; refine condO_some ?_)
    | ((with_reducible refine callP_id ?_); conv => { arg 2; simp (disch := first | assumption | omega) only [push_cast, ↓reduceIte, reduceIte, Nat.reduceEqDiff, Nat.reduceAdd, Nat.reduceSub, Nat.reduceMul, Nat.reduceBEq, Int.reduceNeg, e1, e4, e6, e5, e8, e28, e29, e30, hgb', hck, hgb2', h0, Nat.mul_one, bsI] }; conv => { arg 3; simp (disch := first | assumption | omega) only [push_cast, ↓reduceIte, reduceIte, Nat.reduceEqDiff, Nat.reduceAdd, Nat.reduceSub, Nat.reduceMul, Nat.reduceBEq, Int.reduceNeg, e1, e4, e6, e5, e8, e28, e29, e30, hgb', hck, hgb2', h0, Nat.mul_one, bsI] }; first | refine callP_plain ?_ | refine callP_yield ?_ | (refine callP_func ?_; conv => { arg 3; simp only [push_cast] }))
    | ((with_reducible refine resP_id ?_); conv => { arg 1; simp (disch := first | assumption | omega) only [push_cast, ↓reduceIte, reduceIte, Nat.reduceEqDiff, Nat.reduceAdd, Nat.reduceSub, Nat.reduceMul, Nat.reduceBEq, Int.reduceNeg, e1, e4, e6, e5, e8, e28, e29, e30, hgb', hck, hgb2', h0, Nat.mul_one, bsI] }; first | refine resP_one ?_ | refine resP_two ?_ | refine resP_three ?_ | refine resP_zero ?_)
    | refine wk_seq ?_ | refine wk_block ?_ | refine wk_scope ?_ | refine wk_inBlock ?_ | refine wk_inScope ?_ | refine wk_skip ?_ | refine wk_label ?_ | refine wk_region ?_ | refine wk_draw (by kernel_rfl) (by decide +kernel) ?_ | refine wo_nil ?_ | refine wk_exit ?_ | refine exitK_code ?_ | refine exitK_hit ?_ | refine exitK_miss rfl ?_ | refine exitK_inLoop ?_ | refine exitK_inScope ?_ | refine wk_cond ?_ | refine wk_ret ?_ | refine wk_nil ?_ | refine wo_dst rfl (opR_call ?_) | refine wo_nodst (opR_call ?_) | refine wo_dst rfl (opR_pick ?_) | refine wo_guard rfl rfl ?_ | refine wo_guardn rfl ?_ | refine wo_dst rfl (opR_pure ?_) | refine wo_nodst (opR_pure ?_)
    | refine give_ret ?_ | refine give_end ?_)
      conv => { arg 1; simp (disch := first | assumption | omega) only [push_cast, ↓reduceIte, reduceIte, Nat.reduceEqDiff, Nat.reduceAdd, Nat.reduceSub, Nat.reduceMul, Nat.reduceBEq, Int.reduceNeg, e5, apI] }
      refine optP_one (enc := encI) (x := (C + cs[k]) / us[k + 1].2) encI_len encI_flat (by omega) (by decide) (fun hne => by have q := (hown hne).2.2; have q2 := (hown hne).2.1; simp (disch := first | assumption | omega) only [push_cast, ↓reduceIte, reduceIte, Nat.reduceEqDiff, Nat.reduceAdd, Nat.reduceSub, Nat.reduceMul, Nat.reduceBEq, Int.reduceNeg, q]) (by simp (disch := first | assumption | omega) only [push_cast, ↓reduceIte, reduceIte, Nat.reduceEqDiff, Nat.reduceAdd, Nat.reduceSub, Nat.reduceMul, Nat.reduceBEq, Int.reduceNeg]; rfl) ?_
      intro H2 n2' g2' f2'
      simp only [next_new, next_set] at n2' g2' f2'
      repeat' (first
    | ((with_reducible refine optP_id ?_); conv => { arg 1; simp (disch := first | assumption | omega) only [push_cast, ↓reduceIte, reduceIte, Nat.reduceEqDiff, Nat.reduceAdd, Nat.reduceSub, Nat.reduceMul, Nat.reduceBEq, Int.reduceNeg, e1, e4, e6, e5, e8, e28, e29, e30] }; refine optP_some ?_)
    | ((with_reducible refine condP_id ?_); conv => { arg 1; simp (disch := first | assumption | omega) only [push_cast, ↓reduceIte, reduceIte, Nat.reduceEqDiff, Nat.reduceAdd, Nat.reduceSub, Nat.reduceMul, Nat.reduceBEq, Int.reduceNeg, e1, e4, e6, e5, e8, e28, e29, e30] }; first | refine condP_yes (by first | assumption | exact fun hn => hn (by assumption) | omega | decide) ?_ | refine condP_non (by assumption) ?_ | refine condP_no (by first | assumption | omega | decide) ?_ | refine condP_decn (fun hc => ?_) (fun hc => ?_) | refine condP_dec (fun hc => ?_) (fun hc => ?_) | refine condP_true (by first | assumption | rfl) ?_ | refine condP_false (by first | assumption | rfl) ?_ | refine condP_bool (fun hc => ?_) (fun hc => ?_))
    | ((with_reducible refine condO_id ?_); conv => { arg 1; simp (disch := first | assumption | omega) only [push_cast, ↓reduceIte, reduceIte, Nat.reduceEqDiff, Nat.reduceAdd, Nat.reduceSub, Nat.reduceMul, Nat.reduceBEq, Int.reduceNeg, e1, e4, e6, e5, e8, e28, e29, e30] }; refine condO_some ?_)
    | ((with_reducible refine callP_id ?_); conv => { arg 2; simp (disch := first | assumption | omega) only [push_cast, ↓reduceIte, reduceIte, Nat.reduceEqDiff, Nat.reduceAdd, Nat.reduceSub, Nat.reduceMul, Nat.reduceBEq, Int.reduceNeg, e1, e4, e6, e5, e8, e28, e29, e30] }; conv => { arg 3; simp (disch := first | assumption | omega) only [push_cast, ↓reduceIte, reduceIte, Nat.reduceEqDiff, Nat.reduceAdd, Nat.reduceSub, Nat.reduceMul, Nat.reduceBEq, Int.reduceNeg, e1, e4, e6, e5, e8, e28, e29, e30] }; first | refine callP_plain ?_ | refine callP_yield ?_ | (refine callP_func ?_; conv => { arg 3; simp only [push_cast] }))
    | ((with_reducible refine resP_id ?_); conv => { arg 1; simp (disch := first | assumption | omega) only [push_cast, ↓reduceIte, reduceIte, Nat.reduceEqDiff, Nat.reduceAdd, Nat.reduceSub, Nat.reduceMul, Nat.reduceBEq, Int.reduceNeg, e1, e4, e6, e5, e8, e28, e29, e30] }; first | refine resP_one ?_ | refine resP_two ?_ | refine resP_three ?_ | refine resP_zero ?_)
    | refine wk_seq ?_ | refine wk_block ?_ | refine wk_scope ?_ | refine wk_inBlock ?_ | refine wk_inScope ?_ | refine wk_skip ?_ | refine wk_label ?_ | refine wk_region ?_ | refine wk_draw (by kernel_rfl) (by decide +kernel) ?_ | refine wo_nil ?_ | refine wk_exit ?_ | refine exitK_code ?_ | refine exitK_hit ?_ | refine exitK_miss rfl ?_ | refine exitK_inLoop ?_ | refine exitK_inScope ?_ | refine wk_cond ?_ | refine wk_ret ?_ | refine wk_nil ?_ | refine wo_dst rfl (opR_call ?_) | refine wo_nodst (opR_call ?_) | refine wo_dst rfl (opR_pick ?_) | refine wo_guard rfl rfl ?_ | refine wo_guardn rfl ?_ | refine wo_dst rfl (opR_pure ?_) | refine wo_nodst (opR_pure ?_)
    | refine give_ret ?_ | refine give_end ?_)
      refine next (us.length - 1 - (k + 1)) _ _ (by omega) ⟨k + 1, H.next + 1 + 1, rfl, by omega, ?_, by simp (disch := first | assumption | omega) only [push_cast, ↓reduceIte, reduceIte, Nat.reduceEqDiff, Nat.reduceAdd, Nat.reduceSub, Nat.reduceMul, Nat.reduceBEq, Int.reduceNeg, e1], by simp (disch := first | assumption | omega) only [push_cast, ↓reduceIte, reduceIte, Nat.reduceEqDiff, Nat.reduceAdd, Nat.reduceSub, Nat.reduceMul, Nat.reduceBEq, Int.reduceNeg, e4], by simp (disch := first | assumption | omega) only [push_cast, ↓reduceIte, reduceIte, Nat.reduceEqDiff, Nat.reduceAdd, Nat.reduceSub, Nat.reduceMul, Nat.reduceBEq, Int.reduceNeg, e6], ?_, ?_, by simp (disch := first | assumption | omega) only [push_cast, ↓reduceIte, reduceIte, Nat.reduceEqDiff, Nat.reduceAdd, Nat.reduceSub, Nat.reduceMul, Nat.reduceBEq, Int.reduceNeg, hcs], by simp (disch := first | assumption | omega) only [push_cast, ↓reduceIte, reduceIte, Nat.reduceEqDiff, Nat.reduceAdd, Nat.reduceSub, Nat.reduceMul, Nat.reduceBEq, Int.reduceNeg, e28], by simp (disch := first | assumption | omega) only [push_cast, ↓reduceIte, reduceIte, Nat.reduceEqDiff, Nat.reduceAdd, Nat.reduceSub, Nat.reduceMul, Nat.reduceBEq, Int.reduceNeg, e29], by simp (disch := first | assumption | omega) only [push_cast, ↓reduceIte, reduceIte, Nat.reduceEqDiff, Nat.reduceAdd, Nat.reduceSub, Nat.reduceMul, Nat.reduceBEq, Int.reduceNeg]⟩
      · refine ⟨by omega, fun q hq => ?_⟩
        rw [f2' q (by omega) (fun hne => by have := hown hne; omega)]
        simp (disch := first | assumption | omega) only [push_cast, ↓reduceIte, reduceIte, Nat.reduceEqDiff, Nat.reduceAdd, Nat.reduceSub, Nat.reduceMul, Nat.reduceBEq, Int.reduceNeg, gr.2 q hq]
      · rw [hvs]; simp (disch := first | assumption | omega) only [push_cast, ↓reduceIte, reduceIte, Nat.reduceEqDiff, Nat.reduceAdd, Nat.reduceSub, Nat.reduceMul, Nat.reduceBEq, Int.reduceNeg]
      · intro _
        rw [hvs]
        exact ⟨by omega, by omega, g2'⟩
    · have yy : ¬ (k : Int) < (cs.length : Int) := by omega
      rw [List.getElem?_eq_none (by omega)] at hvs hcs
      simp only [Option.getD_none, Int.add_zero] at hvs hcs
      have d1 := nn_div (a := C) hc1.1 hf1
      have p0 : 0 ≤ C := hc1.1
      repeat' (first
    | ((with_reducible refine optP_id ?_); conv => { arg 1; simp (disch := first | assumption | omega) only [push_cast, ↓reduceIte, reduceIte, Nat.reduceEqDiff, Nat.reduceAdd, Nat.reduceSub, Nat.reduceMul, Nat.reduceBEq, Int.reduceNeg, e1, e4, e6, e5, e8, e28, e29, e30, hgb', hck, Nat.mul_one, bsI] }; refine optP_some ?_)
    | ((with_reducible refine condP_id ?_); conv => { arg 1; simp (disch := first | assumption | omega) only [push_cast, ↓reduceIte, reduceIte, Nat.reduceEqDiff, Nat.reduceAdd, Nat.reduceSub, Nat.reduceMul, Nat.reduceBEq, Int.reduceNeg, e1, e4, e6, e5, e8, e28, e29, e30, hgb', hck, Nat.mul_one, bsI] }; first | refine condP_yes (by first | assumption | exact fun hn => hn (by assumption) | omega | decide) ?_ | refine condP_non (by assumption) ?_ | refine condP_no (by first | assumption | omega | decide) ?_ | refine condP_decn (fun hc => ?_) (fun hc => ?_) | refine condP_dec (fun hc => ?_) (fun hc => ?_) | refine condP_true (by first | assumption | rfl) ?_ | refine condP_false (by first | assumption | rfl) ?_ | refine condP_bool (fun hc => ?_) (fun hc => ?_))
    | ((with_reducible refine condO_id ?_); conv => { arg 1; simp (disch := first | assumption | omega) only [push_cast, ↓reduceIte, reduceIte, Nat.reduceEqDiff, Nat.reduceAdd, Nat.reduceSub, Nat.reduceMul, Nat.reduceBEq, Int.reduceNeg, e1, e4, e6, e5, e8, e28, e29, e30, hgb', hck, Nat.mul_one, bsI] }; refine condO_some ?_)
    | ((with_reducible refine callP_id ?_); conv => { arg 2; simp (disch := first | assumption | omega) only [push_cast, ↓reduceIte, reduceIte, Nat.reduceEqDiff, Nat.reduceAdd, Nat.reduceSub, Nat.reduceMul, Nat.reduceBEq, Int.reduceNeg, e1, e4, e6, e5, e8, e28, e29, e30, hgb', hck, Nat.mul_one, bsI] }; conv => { arg 3; simp (disch := first | assumption | omega) only [push_cast, ↓reduceIte, reduceIte, Nat.reduceEqDiff, Nat.reduceAdd, Nat.reduceSub, Nat.reduceMul, Nat.reduceBEq, Int.reduceNeg, e1, e4, e6, e5, e8, e28, e29, e30, hgb', hck, Nat.mul_one, bsI] }; first | refine callP_plain ?_ | refine callP_yield ?_ | (refine callP_func ?_; conv => { arg 3; simp only [push_cast] }))
    | ((with_reducible refine resP_id ?_); conv => { arg 1; simp (disch := first | assumption | omega) only [push_cast, ↓reduceIte, reduceIte, Nat.reduceEqDiff, Nat.reduceAdd, Nat.reduceSub, Nat.reduceMul, Nat.reduceBEq, Int.reduceNeg, e1, e4, e6, e5, e8, e28, e29, e30, hgb', hck, Nat.mul_one, bsI] }; first | refine resP_one ?_ | refine resP_two ?_ | refine resP_three ?_ | refine resP_zero ?_)
    | refine wk_seq ?_ | refine wk_block ?_ | refine wk_scope ?_ | refine wk_inBlock ?_ | refine wk_inScope ?_ | refine wk_skip ?_ | refine wk_label ?_ | refine wk_region ?_ | refine wk_draw (by kernel_rfl) (by decide +kernel) ?_ | refine wo_nil ?_ | refine wk_exit ?_ | refine exitK_code ?_ | refine exitK_hit ?_ | refine exitK_miss rfl ?_ | refine exitK_inLoop ?_ | refine exitK_inScope ?_ | refine wk_cond ?_ | refine wk_ret ?_ | refine wk_nil ?_ | refine wo_dst rfl (opR_call ?_) | refine wo_nodst (opR_call ?_) | refine wo_dst rfl (opR_pick ?_) | refine wo_guard rfl rfl ?_ | refine wo_guardn rfl ?_ | refine wo_dst rfl (opR_pure ?_) | refine wo_nodst (opR_pure ?_)
    | refine give_ret ?_ | refine give_end ?_)
      conv => { arg 1; simp (disch := first | assumption | omega) only [push_cast, ↓reduceIte, reduceIte, Nat.reduceEqDiff, Nat.reduceAdd, Nat.reduceSub, Nat.reduceMul, Nat.reduceBEq, Int.reduceNeg, e5, apI] }
      refine optP_one (enc := encI) (x := C / us[k + 1].2) encI_len encI_flat (by omega) (by decide) (fun hne => by have q := (hown hne).2.2; have q2 := (hown hne).2.1; simp (disch := first | assumption | omega) only [push_cast, ↓reduceIte, reduceIte, Nat.reduceEqDiff, Nat.reduceAdd, Nat.reduceSub, Nat.reduceMul, Nat.reduceBEq, Int.reduceNeg, q]) (by simp (disch := first | assumption | omega) only [push_cast, ↓reduceIte, reduceIte, Nat.reduceEqDiff, Nat.reduceAdd, Nat.reduceSub, Nat.reduceMul, Nat.reduceBEq, Int.reduceNeg]; rfl) ?_
      intro H2 n2' g2' f2'
      simp only [next_new, next_set] at n2' g2' f2'
      repeat' (first
    | ((with_reducible refine optP_id ?_); conv => { arg 1; simp (disch := first | assumption | omega) only [push_cast, ↓reduceIte, reduceIte, Nat.reduceEqDiff, Nat.reduceAdd, Nat.reduceSub, Nat.reduceMul, Nat.reduceBEq, Int.reduceNeg, e1, e4, e6, e5, e8, e28, e29, e30] }; refine optP_some ?_)
    | ((with_reducible refine condP_id ?_); conv => { arg 1; simp (disch := first | assumption | omega) only [push_cast, ↓reduceIte, reduceIte, Nat.reduceEqDiff, Nat.reduceAdd, Nat.reduceSub, Nat.reduceMul, Nat.reduceBEq, Int.reduceNeg, e1, e4, e6, e5, e8, e28, e29, e30] }; first | refine condP_yes (by first | assumption | exact fun hn => hn (by assumption) | omega | decide) ?_ | refine condP_non (by assumption) ?_ | refine condP_no (by first | assumption | omega | decide) ?_ | refine condP_decn (fun hc => ?_) (fun hc => ?_) | refine condP_dec (fun hc => ?_) (fun hc => ?_) | refine condP_true (by first | assumption | rfl) ?_ | refine condP_false (by first | assumption | rfl) ?_ | refine condP_bool (fun hc => ?_) (fun hc => ?_))
    | ((with_reducible refine condO_id ?_); conv => { arg 1; simp (disch := first | assumption | omega) only [push_cast, ↓reduceIte, reduceIte, Nat.reduceEqDiff, Nat.reduceAdd, Nat.reduceSub, Nat.reduceMul, Nat.reduceBEq, Int.reduceNeg, e1, e4, e6, e5, e8, e28, e29, e30] }; refine condO_some ?_)
    | ((with_reducible refine callP_id ?_); conv => { arg 2; simp (disch := first | assumption | omega) only [push_cast, ↓reduceIte, reduceIte, Nat.reduceEqDiff, Nat.reduceAdd, Nat.reduceSub, Nat.reduceMul, Nat.reduceBEq, Int.reduceNeg, e1, e4, e6, e5, e8, e28, e29, e30] }; conv => { arg 3; simp (disch := first | assumption | omega) only [push_cast, ↓reduceIte, reduceIte, Nat.reduceEqDiff, Nat.reduceAdd, Nat.reduceSub, Nat.reduceMul, Nat.reduceBEq, Int.reduceNeg, e1, e4, e6, e5, e8, e28, e29, e30] }; first | refine callP_plain ?_ | refine callP_yield ?_ | (refine callP_func ?_; conv => { arg 3; simp only [push_cast] }))
    | ((with_reducible refine resP_id ?_); conv => { arg 1; simp (disch := first | assumption | omega) only [push_cast, ↓reduceIte, reduceIte, Nat.reduceEqDiff, Nat.reduceAdd, Nat.reduceSub, Nat.reduceMul, Nat.reduceBEq, Int.reduceNeg, e1, e4, e6, e5, e8, e28, e29, e30] }; first | refine resP_one ?_ | refine resP_two ?_ | refine resP_three ?_ | refine resP_zero ?_)
    | refine wk_seq ?_ | refine wk_block ?_ | refine wk_scope ?_ | refine wk_inBlock ?_ | refine wk_inScope ?_ | refine wk_skip ?_ | refine wk_label ?_ | refine wk_region ?_ | refine wk_draw (by kernel_rfl) (by decide +kernel) ?_ | refine wo_nil ?_ | refine wk_exit ?_ | refine exitK_code ?_ | refine exitK_hit ?_ | refine exitK_miss rfl ?_ | refine exitK_inLoop ?_ | refine exitK_inScope ?_ | refine wk_cond ?_ | refine wk_ret ?_ | refine wk_nil ?_ | refine wo_dst rfl (opR_call ?_) | refine wo_nodst (opR_call ?_) | refine wo_dst rfl (opR_pick ?_) | refine wo_guard rfl rfl ?_ | refine wo_guardn rfl ?_ | refine wo_dst rfl (opR_pure ?_) | refine wo_nodst (opR_pure ?_)
    | refine give_ret ?_ | refine give_end ?_)
      refine next (us.length - 1 - (k + 1)) _ _ (by omega) ⟨k + 1, H.next + 1 + 1, rfl, by omega, ?_, by simp (disch := first | assumption | omega) only [push_cast, ↓reduceIte, reduceIte, Nat.reduceEqDiff, Nat.reduceAdd, Nat.reduceSub, Nat.reduceMul, Nat.reduceBEq, Int.reduceNeg, e1], by simp (disch := first | assumption | omega) only [push_cast, ↓reduceIte, reduceIte, Nat.reduceEqDiff, Nat.reduceAdd, Nat.reduceSub, Nat.reduceMul, Nat.reduceBEq, Int.reduceNeg, e4], by simp (disch := first | assumption | omega) only [push_cast, ↓reduceIte, reduceIte, Nat.reduceEqDiff, Nat.reduceAdd, Nat.reduceSub, Nat.reduceMul, Nat.reduceBEq, Int.reduceNeg, e6], ?_, ?_, by simp (disch := first | assumption | omega) only [push_cast, ↓reduceIte, reduceIte, Nat.reduceEqDiff, Nat.reduceAdd, Nat.reduceSub, Nat.reduceMul, Nat.reduceBEq, Int.reduceNeg, hcs], by simp (disch := first | assumption | omega) only [push_cast, ↓reduceIte, reduceIte, Nat.reduceEqDiff, Nat.reduceAdd, Nat.reduceSub, Nat.reduceMul, Nat.reduceBEq, Int.reduceNeg, e28], by simp (disch := first | assumption | omega) only [push_cast, ↓reduceIte, reduceIte, Nat.reduceEqDiff, Nat.reduceAdd, Nat.reduceSub, Nat.reduceMul, Nat.reduceBEq, Int.reduceNeg, e29], by simp (disch := first | assumption | omega) only [push_cast, ↓reduceIte, reduceIte, Nat.reduceEqDiff, Nat.reduceAdd, Nat.reduceSub, Nat.reduceMul, Nat.reduceBEq, Int.reduceNeg]⟩
      · refine ⟨by omega, fun q hq => ?_⟩
        rw [f2' q (by omega) (fun hne => by have := hown hne; omega)]
        simp (disch := first | assumption | omega) only [push_cast, ↓reduceIte, reduceIte, Nat.reduceEqDiff, Nat.reduceAdd, Nat.reduceSub, Nat.reduceMul, Nat.reduceBEq, Int.reduceNeg, gr.2 q hq]
      · rw [hvs]; simp (disch := first | assumption | omega) only [push_cast, ↓reduceIte, reduceIte, Nat.reduceEqDiff, Nat.reduceAdd, Nat.reduceSub, Nat.reduceMul, Nat.reduceBEq, Int.reduceNeg]
      · intro _
        rw [hvs]
        exact ⟨by omega, by omega, g2'⟩
  · have hkl : k = us.length - 1 := by omega
    subst hkl
    have hvl := carL_len us cs (us.length - 1)
    repeat' (first
    | ((with_reducible refine optP_id ?_); conv => { arg 1; simp (disch := first | assumption | omega) only [push_cast, ↓reduceIte, reduceIte, Nat.reduceEqDiff, Nat.reduceAdd, Nat.reduceSub, Nat.reduceMul, Nat.reduceBEq, Int.reduceNeg, e1, e4, e6, e5, e8, e28, e29, e30] }; refine optP_some ?_)
    | ((with_reducible refine condP_id ?_); conv => { arg 1; simp (disch := first | assumption | omega) only [push_cast, ↓reduceIte, reduceIte, Nat.reduceEqDiff, Nat.reduceAdd, Nat.reduceSub, Nat.reduceMul, Nat.reduceBEq, Int.reduceNeg, e1, e4, e6, e5, e8, e28, e29, e30] }; first | refine condP_yes (by first | assumption | exact fun hn => hn (by assumption) | omega | decide) ?_ | refine condP_non (by assumption) ?_ | refine condP_no (by first | assumption | omega | decide) ?_ | refine condP_decn (fun hc => ?_) (fun hc => ?_) | refine condP_dec (fun hc => ?_) (fun hc => ?_) | refine condP_true (by first | assumption | rfl) ?_ | refine condP_false (by first | assumption | rfl) ?_ | refine condP_bool (fun hc => ?_) (fun hc => ?_))
    | ((with_reducible refine condO_id ?_); conv => { arg 1; simp (disch := first | assumption | omega) only [push_cast, ↓reduceIte, reduceIte, Nat.reduceEqDiff, Nat.reduceAdd, Nat.reduceSub, Nat.reduceMul, Nat.reduceBEq, Int.reduceNeg, e1, e4, e6, e5, e8, e28, e29, e30] }; refine condO_some ?_)
    | ((with_reducible refine callP_id ?_); conv => { arg 2; simp (disch := first | assumption | omega) only [push_cast, ↓reduceIte, reduceIte, Nat.reduceEqDiff, Nat.reduceAdd, Nat.reduceSub, Nat.reduceMul, Nat.reduceBEq, Int.reduceNeg, e1, e4, e6, e5, e8, e28, e29, e30] }; conv => { arg 3; simp (disch := first | assumption | omega) only [push_cast, ↓reduceIte, reduceIte, Nat.reduceEqDiff, Nat.reduceAdd, Nat.reduceSub, Nat.reduceMul, Nat.reduceBEq, Int.reduceNeg, e1, e4, e6, e5, e8, e28, e29, e30] }; first | refine callP_plain ?_ | refine callP_yield ?_ | (refine callP_func ?_; conv => { arg 3; simp only [push_cast] }))
    | ((with_reducible refine resP_id ?_); conv => { arg 1; simp (disch := first | assumption | omega) only [push_cast, ↓reduceIte, reduceIte, Nat.reduceEqDiff, Nat.reduceAdd, Nat.reduceSub, Nat.reduceMul, Nat.reduceBEq, Int.reduceNeg, e1, e4, e6, e5, e8, e28, e29, e30] }; first | refine resP_one ?_ | refine resP_two ?_ | refine resP_three ?_ | refine resP_zero ?_)
    | refine wk_seq ?_ | refine wk_block ?_ | refine wk_scope ?_ | refine wk_inBlock ?_ | refine wk_inScope ?_ | refine wk_skip ?_ | refine wk_label ?_ | refine wk_region ?_ | refine wk_draw (by kernel_rfl) (by decide +kernel) ?_ | refine wo_nil ?_ | refine wk_exit ?_ | refine exitK_code ?_ | refine exitK_hit ?_ | refine exitK_miss rfl ?_ | refine exitK_inLoop ?_ | refine exitK_inScope ?_ | refine wk_cond ?_ | refine wk_ret ?_ | refine wk_nil ?_ | refine wo_dst rfl (opR_call ?_) | refine wo_nodst (opR_call ?_) | refine wo_dst rfl (opR_pick ?_) | refine wo_guard rfl rfl ?_ | refine wo_guardn rfl ?_ | refine wo_dst rfl (opR_pure ?_) | refine wo_nodst (opR_pure ?_)
    | refine give_ret ?_ | refine give_end ?_)
    exact ⟨hT _ _ _ (SlIn.gr hw1 gr) (own_in encI_len (by rw [(capLo_small (len_ex (by omega))).1]; exact Nat.le_refl _) (fun hne => (hown hne).2.1) (fun hne => ⟨true, (hown hne).2.2⟩)), gA.trans gr⟩
end Go.Proofs.Ytfmiimehobcmaaa
/- Contracts: Bring; the ladders that are made of factors. -/
namespace Go.Proofs.Ytfmiimehobcmaaa
open Go.Ev
theorem tmod_emod {n m : Int} (hm : 1 ≤ m) : (n.tmod m < 0 → n % m = n.tmod m + m) ∧ (¬ n.tmod m < 0 → n % m = n.tmod m) ∧ -m < n.tmod m ∧ n.tmod m < m := by
  have h1 := Int.mul_tdiv_add_tmod n m
  have h3 : (n.tmod m).natAbs < m.natAbs := by rw [Int.natAbs_tmod]; exact Nat.mod_lt _ (by omega)
  have h4 : n % m = n.tmod m % m := by
    have : n % m = (m * n.tdiv m + n.tmod m) % m := by rw [h1]
    rw [this, Int.add_comm, Int.add_mul_emod_self_left]
  refine ⟨fun h => ?_, fun h => ?_, by omega, by omega⟩
  · rw [h4, ← Int.add_emod_right, Int.emod_eq_of_lt (by omega) (by omega)]
  · rw [h4, Int.emod_eq_of_lt (by omega) (by omega)]
set_option maxRecDepth 100000 in
set_option maxHeartbeats 4000000 in
theorem bring_w (n m : Int) (h1 : 1 ≤ m) (h2 : m ≤ 4398046511104) (h : AHeap) : Wc pr (.func 73) [.int .i64 n, .int .i64 m] h fun v h' => v = .int .i64 (n % m) ∧ h = h' := by
  obtain ⟨t1, t2, t3, t4⟩ := tmod_emod (n := n) h1
  have m0 : m ≠ 0 := by omega
  have m1 : ¬ m < 1 := by omega
  refine wc_func Try.func73 rfl rfl rfl rfl ?_
  by_cases y : n.tmod m < 0
  · repeat' (first
    | ((with_reducible refine optP_id ?_); conv => { arg 1; simp (disch := first | assumption | omega) only [push_cast, ↓reduceIte, reduceIte, Nat.reduceEqDiff, Nat.reduceAdd, Nat.reduceSub, Nat.reduceMul, Nat.reduceBEq, Int.reduceNeg] }; refine optP_some ?_)
    | ((with_reducible refine condP_id ?_); conv => { arg 1; simp (disch := first | assumption | omega) only [push_cast, ↓reduceIte, reduceIte, Nat.reduceEqDiff, Nat.reduceAdd, Nat.reduceSub, Nat.reduceMul, Nat.reduceBEq, Int.reduceNeg] }; first | refine condP_yes (by first | assumption | exact fun hn => hn (by assumption) | omega | decide) ?_ | refine condP_non (by assumption) ?_ | refine condP_no (by first | assumption | omega | decide) ?_ | refine condP_decn (fun hc => ?_) (fun hc => ?_) | refine condP_dec (fun hc => ?_) (fun hc => ?_) | refine condP_true (by first | assumption | rfl) ?_ | refine condP_false (by first | assumption | rfl) ?_ | refine condP_bool (fun hc => ?_) (fun hc => ?_))
    | ((with_reducible refine condO_id ?_); conv => { arg 1; simp (disch := first | assumption | omega) only [push_cast, ↓reduceIte, reduceIte, Nat.reduceEqDiff, Nat.reduceAdd, Nat.reduceSub, Nat.reduceMul, Nat.reduceBEq, Int.reduceNeg] }; refine condO_some ?_)
    | ((with_reducible refine callP_id ?_); conv => { arg 2; simp (disch := first | assumption | omega) only [push_cast, ↓reduceIte, reduceIte, Nat.reduceEqDiff, Nat.reduceAdd, Nat.reduceSub, Nat.reduceMul, Nat.reduceBEq, Int.reduceNeg] }; conv => { arg 3; simp (disch := first | assumption | omega) only [push_cast, ↓reduceIte, reduceIte, Nat.reduceEqDiff, Nat.reduceAdd, Nat.reduceSub, Nat.reduceMul, Nat.reduceBEq, Int.reduceNeg] }; first | refine callP_plain ?_ | refine callP_yield ?_ | (refine callP_func ?_; conv => { arg 3; simp only [push_cast] }))
    | ((with_reducible refine resP_id ?_); conv => { arg 1; simp (disch := first | assumption | omega) only [push_cast, ↓reduceIte, reduceIte, Nat.reduceEqDiff, Nat.reduceAdd, Nat.reduceSub, Nat.reduceMul, Nat.reduceBEq, Int.reduceNeg] }; first | refine resP_one ?_ | refine resP_two ?_ | refine resP_three ?_ | refine resP_zero ?_)
    | refine wk_seq ?_ | refine wk_block ?_ | refine wk_scope ?_ | refine wk_inBlock ?_ | refine wk_inScope ?_ | refine wk_skip ?_ | refine wk_label ?_ | refine wk_region ?_ | refine wk_draw (by kernel_rfl) (by decide +kernel) ?_ | refine wo_nil ?_ | refine wk_exit ?_ | refine exitK_code ?_ | refine exitK_hit ?_ | refine exitK_miss rfl ?_ | refine exitK_inLoop ?_ | refine exitK_inScope ?_ | refine wk_cond ?_ | refine wk_ret ?_ | refine wk_nil ?_ | refine wo_dst rfl (opR_call ?_) | refine wo_nodst (opR_call ?_) | refine wo_dst rfl (opR_pick ?_) | refine wo_guard rfl rfl ?_ | refine wo_guardn rfl ?_ | refine wo_dst rfl (opR_pure ?_) | refine wo_nodst (opR_pure ?_)
    | refine give_ret ?_ | refine give_end ?_)
    exact ⟨by rw [t1 y], rfl⟩
  · repeat' (first
    | ((with_reducible refine optP_id ?_); conv => { arg 1; simp (disch := first | assumption | omega) only [push_cast, ↓reduceIte, reduceIte, Nat.reduceEqDiff, Nat.reduceAdd, Nat.reduceSub, Nat.reduceMul, Nat.reduceBEq, Int.reduceNeg] }; refine optP_some ?_)
    | ((with_reducible refine condP_id ?_); conv => { arg 1; simp (disch := first | assumption | omega) only [push_cast, ↓reduceIte, reduceIte, Nat.reduceEqDiff, Nat.reduceAdd, Nat.reduceSub, Nat.reduceMul, Nat.reduceBEq, Int.reduceNeg] }; first | refine condP_yes (by first | assumption | exact fun hn => hn (by assumption) | omega | decide) ?_ | refine condP_non (by assumption) ?_ | refine condP_no (by first | assumption | omega | decide) ?_ | refine condP_decn (fun hc => ?_) (fun hc => ?_) | refine condP_dec (fun hc => ?_) (fun hc => ?_) | refine condP_true (by first | assumption | rfl) ?_ | refine condP_false (by first | assumption | rfl) ?_ | refine condP_bool (fun hc => ?_) (fun hc => ?_))
    | ((with_reducible refine condO_id ?_); conv => { arg 1; simp (disch := first | assumption | omega) only [push_cast, ↓reduceIte, reduceIte, Nat.reduceEqDiff, Nat.reduceAdd, Nat.reduceSub, Nat.reduceMul, Nat.reduceBEq, Int.reduceNeg] }; refine condO_some ?_)
    | ((with_reducible refine callP_id ?_); conv => { arg 2; simp (disch := first | assumption | omega) only [push_cast, ↓reduceIte, reduceIte, Nat.reduceEqDiff, Nat.reduceAdd, Nat.reduceSub, Nat.reduceMul, Nat.reduceBEq, Int.reduceNeg] }; conv => { arg 3; simp (disch := first | assumption | omega) only [push_cast, ↓reduceIte, reduceIte, Nat.reduceEqDiff, Nat.reduceAdd, Nat.reduceSub, Nat.reduceMul, Nat.reduceBEq, Int.reduceNeg] }; first | refine callP_plain ?_ | refine callP_yield ?_ | (refine callP_func ?_; conv => { arg 3; simp only [push_cast] }))
    | ((with_reducible refine resP_id ?_); conv => { arg 1; simp (disch := first | assumption | omega) only [push_cast, ↓reduceIte, reduceIte, Nat.reduceEqDiff, Nat.reduceAdd, Nat.reduceSub, Nat.reduceMul, Nat.reduceBEq, Int.reduceNeg] }; first | refine resP_one ?_ | refine resP_two ?_ | refine resP_three ?_ | refine resP_zero ?_)
    | refine wk_seq ?_ | refine wk_block ?_ | refine wk_scope ?_ | refine wk_inBlock ?_ | refine wk_inScope ?_ | refine wk_skip ?_ | refine wk_label ?_ | refine wk_region ?_ | refine wk_draw (by kernel_rfl) (by decide +kernel) ?_ | refine wo_nil ?_ | refine wk_exit ?_ | refine exitK_code ?_ | refine exitK_hit ?_ | refine exitK_miss rfl ?_ | refine exitK_inLoop ?_ | refine exitK_inScope ?_ | refine wk_cond ?_ | refine wk_ret ?_ | refine wk_nil ?_ | refine wo_dst rfl (opR_call ?_) | refine wo_nodst (opR_call ?_) | refine wo_dst rfl (opR_pick ?_) | refine wo_guard rfl rfl ?_ | refine wo_guardn rfl ?_ | refine wo_dst rfl (opR_pure ?_) | refine wo_nodst (opR_pure ?_)
    | refine give_ret ?_ | refine give_end ?_)
    exact ⟨by rw [t2 y], rfl⟩

/-- the signs a, b, c .. -/
def sg (i : Nat) : ByteArray := ⟨#[UInt8.ofNat (97 + i)]⟩
def sgs : List Value := [.string ⟨#[97]⟩, .string ⟨#[98]⟩, .string ⟨#[99]⟩, .string ⟨#[100]⟩, .string ⟨#[101]⟩, .string ⟨#[102]⟩, .string ⟨#[103]⟩, .string ⟨#[104]⟩]
theorem sgs_at {i : Nat} (h : i < 8) : at? sgs i = some (.string (sg i)) := by
  match i, h with
  | 0, _ => rfl
  | 1, _ => rfl
  | 2, _ => rfl
  | 3, _ => rfl
  | 4, _ => rfl
  | 5, _ => rfl
  | 6, _ => rfl
  | 7, _ => rfl
theorem bs62 : buildSliceA Try.prog 62 8 [(0, .string ⟨#[97]⟩), (1, .string ⟨#[98]⟩), (2, .string ⟨#[99]⟩), (3, .string ⟨#[100]⟩), (4, .string ⟨#[101]⟩), (5, .string ⟨#[102]⟩), (6, .string ⟨#[103]⟩), (7, .string ⟨#[104]⟩)] = some (.cells sgs 9 true, fun b => .slice (some ⟨b, 0, none⟩) 8 (EX + 8)) := by kernel_rfl
theorem bs40 (s : ByteArray) (n : Int) : buildSliceA Try.prog 40 1 [(0, .agg #[.string s, .int .i64 n])] = some (.cells [.string s, .int .i64 n] 94 true, fun b => .slice (some ⟨b, 0, none⟩) 1 (EX + 1)) := by kernel_rfl
theorem apU' (h : AHeap) (b : Option Addr) (n c : Nat) (x : Value) : appendOp Try.prog h 40 40 (.slice b n c) x = appendS h 94 2 24 b n c x := by kernel_rfl
/-- the units of a ladder that is made of k factors -/
def vaU (fs : List Int) (k : Nat) : Us := (sg 0, 1) :: (List.range k).map fun i => (sg (i + 1), 2 + fs[i]?.getD 0 % 9)
theorem vaU_len (fs : List Int) (k : Nat) : (vaU fs k).length = k + 1 := by simp [vaU]
theorem vaU_succ (fs : List Int) (k : Nat) : vaU fs (k + 1) = vaU fs k ++ [(sg (k + 1), 2 + fs[k]?.getD 0 % 9)] := by simp [vaU, List.range_succ]
theorem vaU_ne (fs : List Int) (k : Nat) : vaU fs k ≠ [] := by simp [vaU]
def own : ByteArray := ⟨#[111, 119, 110]⟩

set_option maxRecDepth 100000 in
set_option maxHeartbeats 8000000 in
theorem valid_w (nm : ByteArray) (fs : List Int) (v : Value) (h : AHeap) (hv : IIn h v fs) (hl : fs.length ≤ 4611686018427387904) :
    Wc pr (.func 74) [.string nm, v] h fun r h' => (∃ v', r = .agg #[.string nm, v'] ∧ UIn h' v' (vaU fs (min fs.length 7)) ∧ okC v' = true) ∧ Gr h h' := by
  obtain ⟨a, c, rfl, hc, hv⟩ := hv
  refine wc_func Try.func74 rfl rfl rfl rfl ?_
  repeat' (first
    | ((with_reducible refine optP_id ?_); conv => { arg 1; simp (disch := first | assumption | omega) only [push_cast, ↓reduceIte, reduceIte, Nat.reduceEqDiff, Nat.reduceAdd, Nat.reduceSub, Nat.reduceMul, Nat.reduceBEq, Int.reduceNeg, bs62, bs40] }; refine optP_some ?_)
    | ((with_reducible refine condP_id ?_); conv => { arg 1; simp (disch := first | assumption | omega) only [push_cast, ↓reduceIte, reduceIte, Nat.reduceEqDiff, Nat.reduceAdd, Nat.reduceSub, Nat.reduceMul, Nat.reduceBEq, Int.reduceNeg, bs62, bs40] }; first | refine condP_yes (by first | assumption | exact fun hn => hn (by assumption) | omega | decide) ?_ | refine condP_non (by assumption) ?_ | refine condP_no (by first | assumption | omega | decide) ?_ | refine condP_decn (fun hc => ?_) (fun hc => ?_) | refine condP_dec (fun hc => ?_) (fun hc => ?_) | refine condP_true (by first | assumption | rfl) ?_ | refine condP_false (by first | assumption | rfl) ?_ | refine condP_bool (fun hc => ?_) (fun hc => ?_))
    | ((with_reducible refine condO_id ?_); conv => { arg 1; simp (disch := first | assumption | omega) only [push_cast, ↓reduceIte, reduceIte, Nat.reduceEqDiff, Nat.reduceAdd, Nat.reduceSub, Nat.reduceMul, Nat.reduceBEq, Int.reduceNeg, bs62, bs40] }; refine condO_some ?_)
    | ((with_reducible refine callP_id ?_); conv => { arg 2; simp (disch := first | assumption | omega) only [push_cast, ↓reduceIte, reduceIte, Nat.reduceEqDiff, Nat.reduceAdd, Nat.reduceSub, Nat.reduceMul, Nat.reduceBEq, Int.reduceNeg, bs62, bs40] }; conv => { arg 3; simp (disch := first | assumption | omega) only [push_cast, ↓reduceIte, reduceIte, Nat.reduceEqDiff, Nat.reduceAdd, Nat.reduceSub, Nat.reduceMul, Nat.reduceBEq, Int.reduceNeg, bs62, bs40] }; first | refine callP_plain ?_ | refine callP_yield ?_ | (refine callP_func ?_; conv => { arg 3; simp only [push_cast] }))
    | ((with_reducible refine resP_id ?_); conv => { arg 1; simp (disch := first | assumption | omega) only [push_cast, ↓reduceIte, reduceIte, Nat.reduceEqDiff, Nat.reduceAdd, Nat.reduceSub, Nat.reduceMul, Nat.reduceBEq, Int.reduceNeg, bs62, bs40] }; first | refine resP_one ?_ | refine resP_two ?_ | refine resP_three ?_ | refine resP_zero ?_)
    | refine wk_seq ?_ | refine wk_block ?_ | refine wk_scope ?_ | refine wk_inBlock ?_ | refine wk_inScope ?_ | refine wk_skip ?_ | refine wk_label ?_ | refine wk_region ?_ | refine wk_draw (by kernel_rfl) (by decide +kernel) ?_ | refine wk_drawn [(1, 15), (6, 15)] (by kernel_rfl) (by decide +kernel) ?_ | refine wo_nil ?_ | refine wk_exit ?_ | refine exitK_code ?_ | refine exitK_hit ?_ | refine exitK_miss rfl ?_ | refine exitK_inLoop ?_ | refine exitK_inScope ?_ | refine wk_cond ?_ | refine wk_ret ?_ | refine wk_nil ?_ | refine wo_dst rfl (opR_call ?_) | refine wo_nodst (opR_call ?_) | refine wo_dst rfl (opR_pick ?_) | refine wo_guard rfl rfl ?_ | refine wo_guardn rfl ?_ | refine wo_dst rfl (opR_pure ?_) | refine wo_nodst (opR_pure ?_)
    | refine wd_dst rfl (opR_call ?_) | refine wd_nodst (opR_call ?_) | refine wd_dst rfl (opR_pick ?_) | refine wd_guard rfl rfl ?_ | refine wd_guardn rfl ?_ | refine wd_dst rfl (opR_pure ?_) | refine wd_nodst (opR_pure ?_) | refine opR_call ?_ | refine opR_pick ?_ | refine opR_pure ?_ | (refine wd_nil ?_; refine doneD rfl rfl ?_ ?_) | refine again_nil | refine again_cons ?_ ?_ | refine again_plain rfl rfl rfl ?_ | refine again_guard rfl rfl rfl rfl ?_ | exact same_undef | exact same_of rfl rfl | refine give_ret ?_ | refine give_end ?_)
  refine wk_loop (fun m E H => ∃ k b c' : Nat, m = 7 - k ∧ k ≤ 7 ∧ k ≤ fs.length ∧ Gr h H ∧ h.next + 1 + 1 + 1 < H.next ∧ H.get h.next = some (.cells [.string ByteArray.empty, .slice none 0 0] 42 true) ∧ H.get (h.next + 1) = some (.cells sgs 9 true) ∧ h.next + 1 < b ∧ b ≠ h.next + 1 + 1 + 1 ∧ b < H.next ∧ capLo c' = k + 1 ∧ H.get (h.next + 1 + 1 + 1) = some (.cells [.string nm, .slice (some ⟨b, 0, none⟩) (k + 1) c'] 42 true) ∧ H.get b = some (.cells (flatE encU (vaU fs k)) 94 true) ∧ E.look 1 top = .slice a fs.length c ∧ E.look 4 top = .pointer (some ⟨h.next, 0, none⟩) ∧ E.look 5 top = .slice (some ⟨h.next + 1, 0, none⟩) 8 (EX + 8) ∧ E.look 6 top = .pointer (some ⟨h.next + 1 + 1 + 1, 0, none⟩) ∧ E.look 7 top = .int .i64 (k : Int)) 7
    ⟨0, h.next + 1 + 1, EX + 1, by omega, by omega, by omega, by (repeat (first | exact Gr.refl _ | assumption | (refine Gr.trans ?_ (by assumption)) | refine Gr.set ?_ (by first | exact Nat.le_refl _ | omega | (simp only [next_new, next_set]; omega)) _ | refine Gr.new ?_ _)), by simp only [next_new, next_set]; omega, by simp (disch := first | assumption | omega) only [push_cast, ↓reduceIte, reduceIte, Nat.reduceEqDiff, Nat.reduceAdd, Nat.reduceSub, Nat.reduceMul, Nat.reduceBEq, Int.reduceNeg], by simp (disch := first | assumption | omega) only [push_cast, ↓reduceIte, reduceIte, Nat.reduceEqDiff, Nat.reduceAdd, Nat.reduceSub, Nat.reduceMul, Nat.reduceBEq, Int.reduceNeg], by omega, by omega, by simp only [next_new, next_set]; omega, by rw [capLo_ex], by simp (disch := first | assumption | omega) only [push_cast, ↓reduceIte, reduceIte, Nat.reduceEqDiff, Nat.reduceAdd, Nat.reduceSub, Nat.reduceMul, Nat.reduceBEq, Int.reduceNeg], by simp (disch := first | assumption | omega) only [push_cast, ↓reduceIte, reduceIte, Nat.reduceEqDiff, Nat.reduceAdd, Nat.reduceSub, Nat.reduceMul, Nat.reduceBEq, Int.reduceNeg]; rfl, by simp (disch := first | assumption | omega) only [push_cast, ↓reduceIte, reduceIte, Nat.reduceEqDiff, Nat.reduceAdd, Nat.reduceSub, Nat.reduceMul, Nat.reduceBEq, Int.reduceNeg], by simp (disch := first | assumption | omega) only [push_cast, ↓reduceIte, reduceIte, Nat.reduceEqDiff, Nat.reduceAdd, Nat.reduceSub, Nat.reduceMul, Nat.reduceBEq, Int.reduceNeg], by simp (disch := first | assumption | omega) only [push_cast, ↓reduceIte, reduceIte, Nat.reduceEqDiff, Nat.reduceAdd, Nat.reduceSub, Nat.reduceMul, Nat.reduceBEq, Int.reduceNeg], by simp (disch := first | assumption | omega) only [push_cast, ↓reduceIte, reduceIte, Nat.reduceEqDiff, Nat.reduceAdd, Nat.reduceSub, Nat.reduceMul, Nat.reduceBEq, Int.reduceNeg], by simp (disch := first | assumption | omega) only [push_cast, ↓reduceIte, reduceIte, Nat.reduceEqDiff, Nat.reduceAdd, Nat.reduceSub, Nat.reduceMul, Nat.reduceBEq, Int.reduceNeg, Int.natCast_zero]⟩ ?_
  rintro m E H ⟨k, b, c', rfl, hk7, hkl, gr, gn, d4, d5, hb1, hb3, hbH, hcap, d6, hgb, e1, e4, e5, e6, e7⟩ next
  have g0 := gr.1
  by_cases y1 : (k : Int) < (fs.length : Int)
  · by_cases y2 : (k : Int) < 7
    · have hkf : k < fs.length := by omega
      obtain ⟨b2, off2, cl2, rw2, rfl, hb2, hgb2, hat2⟩ := hv (by intro h; rw [h] at hkf; exact absurd hkf (Nat.not_lt_zero k))
      have hgb2' : H.get b2 = some (.cells cl2 3 rw2) := by rw [gr.2 b2 hb2]; exact hgb2
      have h0 := at_cut1 _ _ _ (hat2 k hkf)
      rw [Nat.mul_one] at h0
      have hs := sgs_at (i := k + 1) (by omega)
      have hvl := vaU_len fs k
      have hvs := vaU_succ fs k
      rw [List.getElem?_eq_getElem hkf] at hvs
      simp only [Option.getD_some] at hvs
      generalize hX : fs[k] = X at *
      have r1 := Int.emod_nonneg X (show (9 : Int) ≠ 0 by omega)
      have r2 := Int.emod_lt_of_pos X (show (0 : Int) < 9 by omega)
      repeat' (first
    | ((with_reducible refine optP_id ?_); conv => { arg 1; simp (disch := first | assumption | omega) only [push_cast, ↓reduceIte, reduceIte, Nat.reduceEqDiff, Nat.reduceAdd, Nat.reduceSub, Nat.reduceMul, Nat.reduceBEq, Int.reduceNeg, d4, d5, d6, hgb, e1, e4, e5, e6, e7, hs, hgb2', h0, Nat.mul_one, Nat.zero_add, bs40] }; refine optP_some ?_)
    | ((with_reducible refine condP_id ?_); conv => { arg 1; simp (disch := first | assumption | omega) only [push_cast, ↓reduceIte, reduceIte, Nat.reduceEqDiff, Nat.reduceAdd, Nat.reduceSub, Nat.reduceMul, Nat.reduceBEq, Int.reduceNeg, d4, d5, d6, hgb, e1, e4, e5, e6, e7, hs, hgb2', h0, Nat.mul_one, Nat.zero_add, bs40] }; first | refine condP_yes (by first | assumption | exact fun hn => hn (by assumption) | omega | decide) ?_ | refine condP_non (by assumption) ?_ | refine condP_no (by first | assumption | omega | decide) ?_ | refine condP_decn (fun hc => ?_) (fun hc => ?_) | refine condP_dec (fun hc => ?_) (fun hc => ?_) | refine condP_true (by first | assumption | rfl) ?_ | refine condP_false (by first | assumption | rfl) ?_ | refine condP_bool (fun hc => ?_) (fun hc => ?_))
    | ((with_reducible refine condO_id ?_); conv => { arg 1; simp (disch := first | assumption | omega) only [push_cast, ↓reduceIte, reduceIte, Nat.reduceEqDiff, Nat.reduceAdd, Nat.reduceSub, Nat.reduceMul, Nat.reduceBEq, Int.reduceNeg, d4, d5, d6, hgb, e1, e4, e5, e6, e7, hs, hgb2', h0, Nat.mul_one, Nat.zero_add, bs40] }; refine condO_some ?_)
    | ((with_reducible refine callP_id ?_); conv => { arg 2; simp (disch := first | assumption | omega) only [push_cast, ↓reduceIte, reduceIte, Nat.reduceEqDiff, Nat.reduceAdd, Nat.reduceSub, Nat.reduceMul, Nat.reduceBEq, Int.reduceNeg, d4, d5, d6, hgb, e1, e4, e5, e6, e7, hs, hgb2', h0, Nat.mul_one, Nat.zero_add, bs40] }; conv => { arg 3; simp (disch := first | assumption | omega) only [push_cast, ↓reduceIte, reduceIte, Nat.reduceEqDiff, Nat.reduceAdd, Nat.reduceSub, Nat.reduceMul, Nat.reduceBEq, Int.reduceNeg, d4, d5, d6, hgb, e1, e4, e5, e6, e7, hs, hgb2', h0, Nat.mul_one, Nat.zero_add, bs40] }; first | refine callP_plain ?_ | refine callP_yield ?_ | (refine callP_func ?_; conv => { arg 3; simp only [push_cast] }))
    | ((with_reducible refine resP_id ?_); conv => { arg 1; simp (disch := first | assumption | omega) only [push_cast, ↓reduceIte, reduceIte, Nat.reduceEqDiff, Nat.reduceAdd, Nat.reduceSub, Nat.reduceMul, Nat.reduceBEq, Int.reduceNeg, d4, d5, d6, hgb, e1, e4, e5, e6, e7, hs, hgb2', h0, Nat.mul_one, Nat.zero_add, bs40] }; first | refine resP_one ?_ | refine resP_two ?_ | refine resP_three ?_ | refine resP_zero ?_)
    | refine wk_seq ?_ | refine wk_block ?_ | refine wk_scope ?_ | refine wk_inBlock ?_ | refine wk_inScope ?_ | refine wk_skip ?_ | refine wk_label ?_ | refine wk_region ?_ | refine wk_draw (by kernel_rfl) (by decide +kernel) ?_ | refine wk_drawn [(1, 15), (6, 15)] (by kernel_rfl) (by decide +kernel) ?_ | refine wo_nil ?_ | refine wk_exit ?_ | refine exitK_code ?_ | refine exitK_hit ?_ | refine exitK_miss rfl ?_ | refine exitK_inLoop ?_ | refine exitK_inScope ?_ | refine wk_cond ?_ | refine wk_ret ?_ | refine wk_nil ?_ | refine wo_dst rfl (opR_call ?_) | refine wo_nodst (opR_call ?_) | refine wo_dst rfl (opR_pick ?_) | refine wo_guard rfl rfl ?_ | refine wo_guardn rfl ?_ | refine wo_dst rfl (opR_pure ?_) | refine wo_nodst (opR_pure ?_)
    | refine wd_dst rfl (opR_call ?_) | refine wd_nodst (opR_call ?_) | refine wd_dst rfl (opR_pick ?_) | refine wd_guard rfl rfl ?_ | refine wd_guardn rfl ?_ | refine wd_dst rfl (opR_pure ?_) | refine wd_nodst (opR_pure ?_) | refine opR_call ?_ | refine opR_pick ?_ | refine opR_pure ?_ | (refine wd_nil ?_; refine doneD rfl rfl ?_ ?_) | refine again_nil | refine again_cons ?_ ?_ | refine again_plain rfl rfl rfl ?_ | refine again_guard rfl rfl rfl rfl ?_ | exact same_undef | exact same_of rfl rfl | refine give_ret ?_ | refine give_end ?_)
      refine (bring_w _ 9 (by omega) (by omega) _).mono ?_
      rintro _ _ ⟨rfl, rfl⟩
      repeat' (first
    | ((with_reducible refine optP_id ?_); conv => { arg 1; simp (disch := first | assumption | omega) only [push_cast, ↓reduceIte, reduceIte, Nat.reduceEqDiff, Nat.reduceAdd, Nat.reduceSub, Nat.reduceMul, Nat.reduceBEq, Int.reduceNeg, d4, d5, d6, hgb, e1, e4, e5, e6, e7, hs, hgb2', h0, Nat.mul_one, Nat.zero_add, bs40] }; refine optP_some ?_)
    | ((with_reducible refine condP_id ?_); conv => { arg 1; simp (disch := first | assumption | omega) only [push_cast, ↓reduceIte, reduceIte, Nat.reduceEqDiff, Nat.reduceAdd, Nat.reduceSub, Nat.reduceMul, Nat.reduceBEq, Int.reduceNeg, d4, d5, d6, hgb, e1, e4, e5, e6, e7, hs, hgb2', h0, Nat.mul_one, Nat.zero_add, bs40] }; first | refine condP_yes (by first | assumption | exact fun hn => hn (by assumption) | omega | decide) ?_ | refine condP_non (by assumption) ?_ | refine condP_no (by first | assumption | omega | decide) ?_ | refine condP_decn (fun hc => ?_) (fun hc => ?_) | refine condP_dec (fun hc => ?_) (fun hc => ?_) | refine condP_true (by first | assumption | rfl) ?_ | refine condP_false (by first | assumption | rfl) ?_ | refine condP_bool (fun hc => ?_) (fun hc => ?_))
    | ((with_reducible refine condO_id ?_); conv => { arg 1; simp (disch := first | assumption | omega) only [push_cast, ↓reduceIte, reduceIte, Nat.reduceEqDiff, Nat.reduceAdd, Nat.reduceSub, Nat.reduceMul, Nat.reduceBEq, Int.reduceNeg, d4, d5, d6, hgb, e1, e4, e5, e6, e7, hs, hgb2', h0, Nat.mul_one, Nat.zero_add, bs40] }; refine condO_some ?_)
    | ((with_reducible refine callP_id ?_); conv => { arg 2; simp (disch := first | assumption | omega) only [push_cast, ↓reduceIte, reduceIte, Nat.reduceEqDiff, Nat.reduceAdd, Nat.reduceSub, Nat.reduceMul, Nat.reduceBEq, Int.reduceNeg, d4, d5, d6, hgb, e1, e4, e5, e6, e7, hs, hgb2', h0, Nat.mul_one, Nat.zero_add, bs40] }; conv => { arg 3; simp (disch := first | assumption | omega) only [push_cast, ↓reduceIte, reduceIte, Nat.reduceEqDiff, Nat.reduceAdd, Nat.reduceSub, Nat.reduceMul, Nat.reduceBEq, Int.reduceNeg, d4, d5, d6, hgb, e1, e4, e5, e6, e7, hs, hgb2', h0, Nat.mul_one, Nat.zero_add, bs40] }; first | refine callP_plain ?_ | refine callP_yield ?_ | (refine callP_func ?_; conv => { arg 3; simp only [push_cast] }))
    | ((with_reducible refine resP_id ?_); conv => { arg 1; simp (disch := first | assumption | omega) only [push_cast, ↓reduceIte, reduceIte, Nat.reduceEqDiff, Nat.reduceAdd, Nat.reduceSub, Nat.reduceMul, Nat.reduceBEq, Int.reduceNeg, d4, d5, d6, hgb, e1, e4, e5, e6, e7, hs, hgb2', h0, Nat.mul_one, Nat.zero_add, bs40] }; first | refine resP_one ?_ | refine resP_two ?_ | refine resP_three ?_ | refine resP_zero ?_)
    | refine wk_seq ?_ | refine wk_block ?_ | refine wk_scope ?_ | refine wk_inBlock ?_ | refine wk_inScope ?_ | refine wk_skip ?_ | refine wk_label ?_ | refine wk_region ?_ | refine wk_draw (by kernel_rfl) (by decide +kernel) ?_ | refine wk_drawn [(1, 15), (6, 15)] (by kernel_rfl) (by decide +kernel) ?_ | refine wo_nil ?_ | refine wk_exit ?_ | refine exitK_code ?_ | refine exitK_hit ?_ | refine exitK_miss rfl ?_ | refine exitK_inLoop ?_ | refine exitK_inScope ?_ | refine wk_cond ?_ | refine wk_ret ?_ | refine wk_nil ?_ | refine wo_dst rfl (opR_call ?_) | refine wo_nodst (opR_call ?_) | refine wo_dst rfl (opR_pick ?_) | refine wo_guard rfl rfl ?_ | refine wo_guardn rfl ?_ | refine wo_dst rfl (opR_pure ?_) | refine wo_nodst (opR_pure ?_)
    | refine wd_dst rfl (opR_call ?_) | refine wd_nodst (opR_call ?_) | refine wd_dst rfl (opR_pick ?_) | refine wd_guard rfl rfl ?_ | refine wd_guardn rfl ?_ | refine wd_dst rfl (opR_pure ?_) | refine wd_nodst (opR_pure ?_) | refine opR_call ?_ | refine opR_pick ?_ | refine opR_pure ?_ | (refine wd_nil ?_; refine doneD rfl rfl ?_ ?_) | refine again_nil | refine again_cons ?_ ?_ | refine again_plain rfl rfl rfl ?_ | refine again_guard rfl rfl rfl rfl ?_ | exact same_undef | exact same_of rfl rfl | refine give_ret ?_ | refine give_end ?_)
      conv => { arg 1; simp (disch := first | assumption | omega) only [push_cast, ↓reduceIte, reduceIte, Nat.reduceEqDiff, Nat.reduceAdd, Nat.reduceSub, Nat.reduceMul, Nat.reduceBEq, Int.reduceNeg, apU'] }
      have op := fun (Q : Value → AHeap → Prop) (HH : AHeap) q1 q2 q => optP_more (enc := encU) (e := 94) (k := 2) (bytes := 24) (l := vaU fs k) (b := b) (bn := H.next) (e' := 94) (rw' := true) (c := c') (c' := EX + 1) (x := (sg (k + 1), 2 + X % 9)) (Q := Q) (h := HH) encU_len encU_flat (vaU_ne fs k) (by rw [hvl]; omega) (by decide) (by rw [hvl]; exact hcap) q1 q2 q
      rw [hvl] at op
      refine op _ _ (by simp (disch := first | assumption | omega) only [push_cast, ↓reduceIte, reduceIte, Nat.reduceEqDiff, Nat.reduceAdd, Nat.reduceSub, Nat.reduceMul, Nat.reduceBEq, Int.reduceNeg, hgb]) (by simp (disch := first | assumption | omega) only [push_cast, ↓reduceIte, reduceIte, Nat.reduceEqDiff, Nat.reduceAdd, Nat.reduceSub, Nat.reduceMul, Nat.reduceBEq, Int.reduceNeg]; rfl) ?_
      intro H2 n2 g2 f2
      simp only [next_new, next_set] at n2 g2 f2
      have d6' : H2.get (h.next + 1 + 1 + 1) = some (.cells [.string nm, .slice (some ⟨b, 0, none⟩) (k + 1) c'] 42 true) := by rw [f2 _ (by omega) (by omega)]; simp (disch := first | assumption | omega) only [push_cast, ↓reduceIte, reduceIte, Nat.reduceEqDiff, Nat.reduceAdd, Nat.reduceSub, Nat.reduceMul, Nat.reduceBEq, Int.reduceNeg, d6]
      have d4' : H2.get h.next = some (.cells [.string ByteArray.empty, .slice none 0 0] 42 true) := by rw [f2 _ (by omega) (by omega)]; simp (disch := first | assumption | omega) only [push_cast, ↓reduceIte, reduceIte, Nat.reduceEqDiff, Nat.reduceAdd, Nat.reduceSub, Nat.reduceMul, Nat.reduceBEq, Int.reduceNeg, d4]
      have d5' : H2.get (h.next + 1) = some (.cells sgs 9 true) := by rw [f2 _ (by omega) (by omega)]; simp (disch := first | assumption | omega) only [push_cast, ↓reduceIte, reduceIte, Nat.reduceEqDiff, Nat.reduceAdd, Nat.reduceSub, Nat.reduceMul, Nat.reduceBEq, Int.reduceNeg, d5]
      have gr2 : Gr h H2 := ⟨by omega, fun q hq => by rw [f2 _ (by omega) (by omega)]; simp (disch := first | assumption | omega) only [push_cast, ↓reduceIte, reduceIte, Nat.reduceEqDiff, Nat.reduceAdd, Nat.reduceSub, Nat.reduceMul, Nat.reduceBEq, Int.reduceNeg]; exact gr.2 q hq⟩
      repeat' (first
    | ((with_reducible refine optP_id ?_); conv => { arg 1; simp (disch := first | assumption | omega) only [push_cast, ↓reduceIte, reduceIte, Nat.reduceEqDiff, Nat.reduceAdd, Nat.reduceSub, Nat.reduceMul, Nat.reduceBEq, Int.reduceNeg, d4, d5, d6, d6', hs, hgb, e1, e4, e5, e6, e7] }; refine optP_some ?_)
    | ((with_reducible refine condP_id ?_); conv => { arg 1; simp (disch := first | assumption | omega) only [push_cast, ↓reduceIte, reduceIte, Nat.reduceEqDiff, Nat.reduceAdd, Nat.reduceSub, Nat.reduceMul, Nat.reduceBEq, Int.reduceNeg, d4, d5, d6, d6', hs, hgb, e1, e4, e5, e6, e7] }; first | refine condP_yes (by first | assumption | exact fun hn => hn (by assumption) | omega | decide) ?_ | refine condP_non (by assumption) ?_ | refine condP_no (by first | assumption | omega | decide) ?_ | refine condP_decn (fun hc => ?_) (fun hc => ?_) | refine condP_dec (fun hc => ?_) (fun hc => ?_) | refine condP_true (by first | assumption | rfl) ?_ | refine condP_false (by first | assumption | rfl) ?_ | refine condP_bool (fun hc => ?_) (fun hc => ?_))
    | ((with_reducible refine condO_id ?_); conv => { arg 1; simp (disch := first | assumption | omega) only [push_cast, ↓reduceIte, reduceIte, Nat.reduceEqDiff, Nat.reduceAdd, Nat.reduceSub, Nat.reduceMul, Nat.reduceBEq, Int.reduceNeg, d4, d5, d6, d6', hs, hgb, e1, e4, e5, e6, e7] }; refine condO_some ?_)
    | ((with_reducible refine callP_id ?_); conv => { arg 2; simp (disch := first | assumption | omega) only [push_cast, ↓reduceIte, reduceIte, Nat.reduceEqDiff, Nat.reduceAdd, Nat.reduceSub, Nat.reduceMul, Nat.reduceBEq, Int.reduceNeg, d4, d5, d6, d6', hs, hgb, e1, e4, e5, e6, e7] }; conv => { arg 3; simp (disch := first | assumption | omega) only [push_cast, ↓reduceIte, reduceIte, Nat.reduceEqDiff, Nat.reduceAdd, Nat.reduceSub, Nat.reduceMul, Nat.reduceBEq, Int.reduceNeg, d4, d5, d6, d6', hs, hgb, e1, e4, e5, e6, e7] }; first | refine callP_plain ?_ | refine callP_yield ?_ | (refine callP_func ?_; conv => { arg 3; simp only [push_cast] }))
    | ((with_reducible refine resP_id ?_); conv => { arg 1; simp (disch := first | assumption | omega) only [push_cast, ↓reduceIte, reduceIte, Nat.reduceEqDiff, Nat.reduceAdd, Nat.reduceSub, Nat.reduceMul, Nat.reduceBEq, Int.reduceNeg, d4, d5, d6, d6', hs, hgb, e1, e4, e5, e6, e7] }; first | refine resP_one ?_ | refine resP_two ?_ | refine resP_three ?_ | refine resP_zero ?_)
    | refine wk_seq ?_ | refine wk_block ?_ | refine wk_scope ?_ | refine wk_inBlock ?_ | refine wk_inScope ?_ | refine wk_skip ?_ | refine wk_label ?_ | refine wk_region ?_ | refine wk_draw (by kernel_rfl) (by decide +kernel) ?_ | refine wk_drawn [(1, 15), (6, 15)] (by kernel_rfl) (by decide +kernel) ?_ | refine wo_nil ?_ | refine wk_exit ?_ | refine exitK_code ?_ | refine exitK_hit ?_ | refine exitK_miss rfl ?_ | refine exitK_inLoop ?_ | refine exitK_inScope ?_ | refine wk_cond ?_ | refine wk_ret ?_ | refine wk_nil ?_ | refine wo_dst rfl (opR_call ?_) | refine wo_nodst (opR_call ?_) | refine wo_dst rfl (opR_pick ?_) | refine wo_guard rfl rfl ?_ | refine wo_guardn rfl ?_ | refine wo_dst rfl (opR_pure ?_) | refine wo_nodst (opR_pure ?_)
    | refine wd_dst rfl (opR_call ?_) | refine wd_nodst (opR_call ?_) | refine wd_dst rfl (opR_pick ?_) | refine wd_guard rfl rfl ?_ | refine wd_guardn rfl ?_ | refine wd_dst rfl (opR_pure ?_) | refine wd_nodst (opR_pure ?_) | refine opR_call ?_ | refine opR_pick ?_ | refine opR_pure ?_ | (refine wd_nil ?_; refine doneD rfl rfl ?_ ?_) | refine again_nil | refine again_cons ?_ ?_ | refine again_plain rfl rfl rfl ?_ | refine again_guard rfl rfl rfl rfl ?_ | exact same_undef | exact same_of rfl rfl | refine give_ret ?_ | refine give_end ?_)
      refine next (7 - (k + 1)) _ _ (by omega) ⟨k + 1, H.next + 1, (vaU fs k ++ [(sg (k + 1), 2 + X % 9)]).length, rfl, by omega, by omega, by (repeat (first | exact Gr.refl _ | assumption | (refine Gr.trans ?_ (by assumption)) | refine Gr.set ?_ (by first | exact Nat.le_refl _ | omega | (simp only [next_new, next_set]; omega)) _ | refine Gr.new ?_ _)), by simp only [next_set]; omega, by simp (disch := first | assumption | omega) only [push_cast, ↓reduceIte, reduceIte, Nat.reduceEqDiff, Nat.reduceAdd, Nat.reduceSub, Nat.reduceMul, Nat.reduceBEq, Int.reduceNeg, d4'], by simp (disch := first | assumption | omega) only [push_cast, ↓reduceIte, reduceIte, Nat.reduceEqDiff, Nat.reduceAdd, Nat.reduceSub, Nat.reduceMul, Nat.reduceBEq, Int.reduceNeg, d5'], by omega, by omega, by simp only [next_set]; omega, ?_, ?_, ?_, by simp (disch := first | assumption | omega) only [push_cast, ↓reduceIte, reduceIte, Nat.reduceEqDiff, Nat.reduceAdd, Nat.reduceSub, Nat.reduceMul, Nat.reduceBEq, Int.reduceNeg, e1], by simp (disch := first | assumption | omega) only [push_cast, ↓reduceIte, reduceIte, Nat.reduceEqDiff, Nat.reduceAdd, Nat.reduceSub, Nat.reduceMul, Nat.reduceBEq, Int.reduceNeg, e4], by simp (disch := first | assumption | omega) only [push_cast, ↓reduceIte, reduceIte, Nat.reduceEqDiff, Nat.reduceAdd, Nat.reduceSub, Nat.reduceMul, Nat.reduceBEq, Int.reduceNeg, e5], by simp (disch := first | assumption | omega) only [push_cast, ↓reduceIte, reduceIte, Nat.reduceEqDiff, Nat.reduceAdd, Nat.reduceSub, Nat.reduceMul, Nat.reduceBEq, Int.reduceNeg, e6], by simp (disch := first | assumption | omega) only [push_cast, ↓reduceIte, reduceIte, Nat.reduceEqDiff, Nat.reduceAdd, Nat.reduceSub, Nat.reduceMul, Nat.reduceBEq, Int.reduceNeg]⟩
      · rw [List.length_append, hvl]
        exact (capLo_small (len_ex (by simp; omega))).1
      · simp (disch := first | assumption | omega) only [push_cast, ↓reduceIte, reduceIte, Nat.reduceEqDiff, Nat.reduceAdd, Nat.reduceSub, Nat.reduceMul, Nat.reduceBEq, Int.reduceNeg]
        rw [List.length_append, hvl]
        rfl
      · rw [hvs]
        simp (disch := first | assumption | omega) only [push_cast, ↓reduceIte, reduceIte, Nat.reduceEqDiff, Nat.reduceAdd, Nat.reduceSub, Nat.reduceMul, Nat.reduceBEq, Int.reduceNeg, g2]
    · have hk : k = 7 := by omega
      subst hk
      have hm : min fs.length 7 = 7 := by omega
      repeat' (first
    | ((with_reducible refine optP_id ?_); conv => { arg 1; simp (disch := first | assumption | omega) only [push_cast, ↓reduceIte, reduceIte, Nat.reduceEqDiff, Nat.reduceAdd, Nat.reduceSub, Nat.reduceMul, Nat.reduceBEq, Int.reduceNeg, d4, d5, d6, hgb, e1, e4, e5, e6, e7] }; refine optP_some ?_)
    | ((with_reducible refine condP_id ?_); conv => { arg 1; simp (disch := first | assumption | omega) only [push_cast, ↓reduceIte, reduceIte, Nat.reduceEqDiff, Nat.reduceAdd, Nat.reduceSub, Nat.reduceMul, Nat.reduceBEq, Int.reduceNeg, d4, d5, d6, hgb, e1, e4, e5, e6, e7] }; first | refine condP_yes (by first | assumption | exact fun hn => hn (by assumption) | omega | decide) ?_ | refine condP_non (by assumption) ?_ | refine condP_no (by first | assumption | omega | decide) ?_ | refine condP_decn (fun hc => ?_) (fun hc => ?_) | refine condP_dec (fun hc => ?_) (fun hc => ?_) | refine condP_true (by first | assumption | rfl) ?_ | refine condP_false (by first | assumption | rfl) ?_ | refine condP_bool (fun hc => ?_) (fun hc => ?_))
    | ((with_reducible refine condO_id ?_); conv => { arg 1; simp (disch := first | assumption | omega) only [push_cast, ↓reduceIte, reduceIte, Nat.reduceEqDiff, Nat.reduceAdd, Nat.reduceSub, Nat.reduceMul, Nat.reduceBEq, Int.reduceNeg, d4, d5, d6, hgb, e1, e4, e5, e6, e7] }; refine condO_some ?_)
    | ((with_reducible refine callP_id ?_); conv => { arg 2; simp (disch := first | assumption | omega) only [push_cast, ↓reduceIte, reduceIte, Nat.reduceEqDiff, Nat.reduceAdd, Nat.reduceSub, Nat.reduceMul, Nat.reduceBEq, Int.reduceNeg, d4, d5, d6, hgb, e1, e4, e5, e6, e7] }; conv => { arg 3; simp (disch := first | assumption | omega) only [push_cast, ↓reduceIte, reduceIte, Nat.reduceEqDiff, Nat.reduceAdd, Nat.reduceSub, Nat.reduceMul, Nat.reduceBEq, Int.reduceNeg, d4, d5, d6, hgb, e1, e4, e5, e6, e7] }; first | refine callP_plain ?_ | refine callP_yield ?_ | (refine callP_func ?_; conv => { arg 3; simp only [push_cast] }))
    | ((with_reducible refine resP_id ?_); conv => { arg 1; simp (disch := first | assumption | omega) only [push_cast, ↓reduceIte, reduceIte, Nat.reduceEqDiff, Nat.reduceAdd, Nat.reduceSub, Nat.reduceMul, Nat.reduceBEq, Int.reduceNeg, d4, d5, d6, hgb, e1, e4, e5, e6, e7] }; first | refine resP_one ?_ | refine resP_two ?_ | refine resP_three ?_ | refine resP_zero ?_)
    | refine wk_seq ?_ | refine wk_block ?_ | refine wk_scope ?_ | refine wk_inBlock ?_ | refine wk_inScope ?_ | refine wk_skip ?_ | refine wk_label ?_ | refine wk_region ?_ | refine wk_draw (by kernel_rfl) (by decide +kernel) ?_ | refine wk_drawn [(1, 15), (6, 15)] (by kernel_rfl) (by decide +kernel) ?_ | refine wo_nil ?_ | refine wk_exit ?_ | refine exitK_code ?_ | refine exitK_hit ?_ | refine exitK_miss rfl ?_ | refine exitK_inLoop ?_ | refine exitK_inScope ?_ | refine wk_cond ?_ | refine wk_ret ?_ | refine wk_nil ?_ | refine wo_dst rfl (opR_call ?_) | refine wo_nodst (opR_call ?_) | refine wo_dst rfl (opR_pick ?_) | refine wo_guard rfl rfl ?_ | refine wo_guardn rfl ?_ | refine wo_dst rfl (opR_pure ?_) | refine wo_nodst (opR_pure ?_)
    | refine wd_dst rfl (opR_call ?_) | refine wd_nodst (opR_call ?_) | refine wd_dst rfl (opR_pick ?_) | refine wd_guard rfl rfl ?_ | refine wd_guardn rfl ?_ | refine wd_dst rfl (opR_pure ?_) | refine wd_nodst (opR_pure ?_) | refine opR_call ?_ | refine opR_pick ?_ | refine opR_pure ?_ | (refine wd_nil ?_; refine doneD rfl rfl ?_ ?_) | refine again_nil | refine again_cons ?_ ?_ | refine again_plain rfl rfl rfl ?_ | refine again_guard rfl rfl rfl rfl ?_ | exact same_undef | exact same_of rfl rfl | refine give_ret ?_ | refine give_end ?_)
      rw [hm]
      exact ⟨⟨_, rfl, ⟨_, c', rfl, by rw [hcap]; exact Nat.le_refl _, fun _ => ⟨b, 0, flatE encU (vaU fs 7), true, rfl, by simp only [next_set]; omega, by simp (disch := first | assumption | omega) only [push_cast, ↓reduceIte, reduceIte, Nat.reduceEqDiff, Nat.reduceAdd, Nat.reduceSub, Nat.reduceMul, Nat.reduceBEq, Int.reduceNeg, hgb], fun i hi => by rw [Nat.zero_add]; exact flatE_cut encU_len _ hi⟩⟩, rfl⟩, by (repeat (first | exact Gr.refl _ | assumption | (refine Gr.trans ?_ (by assumption)) | refine Gr.set ?_ (by first | exact Nat.le_refl _ | omega | (simp only [next_new, next_set]; omega)) _ | refine Gr.new ?_ _))⟩
  · have hk : k = fs.length := by omega
    have hm : min fs.length 7 = k := by omega
    have hvl := vaU_len fs k
    repeat' (first
    | ((with_reducible refine optP_id ?_); conv => { arg 1; simp (disch := first | assumption | omega) only [push_cast, ↓reduceIte, reduceIte, Nat.reduceEqDiff, Nat.reduceAdd, Nat.reduceSub, Nat.reduceMul, Nat.reduceBEq, Int.reduceNeg, d4, d5, d6, hgb, e1, e4, e5, e6, e7] }; refine optP_some ?_)
    | ((with_reducible refine condP_id ?_); conv => { arg 1; simp (disch := first | assumption | omega) only [push_cast, ↓reduceIte, reduceIte, Nat.reduceEqDiff, Nat.reduceAdd, Nat.reduceSub, Nat.reduceMul, Nat.reduceBEq, Int.reduceNeg, d4, d5, d6, hgb, e1, e4, e5, e6, e7] }; first | refine condP_yes (by first | assumption | exact fun hn => hn (by assumption) | omega | decide) ?_ | refine condP_non (by assumption) ?_ | refine condP_no (by first | assumption | omega | decide) ?_ | refine condP_decn (fun hc => ?_) (fun hc => ?_) | refine condP_dec (fun hc => ?_) (fun hc => ?_) | refine condP_true (by first | assumption | rfl) ?_ | refine condP_false (by first | assumption | rfl) ?_ | refine condP_bool (fun hc => ?_) (fun hc => ?_))
    | ((with_reducible refine condO_id ?_); conv => { arg 1; simp (disch := first | assumption | omega) only [push_cast, ↓reduceIte, reduceIte, Nat.reduceEqDiff, Nat.reduceAdd, Nat.reduceSub, Nat.reduceMul, Nat.reduceBEq, Int.reduceNeg, d4, d5, d6, hgb, e1, e4, e5, e6, e7] }; refine condO_some ?_)
    | ((with_reducible refine callP_id ?_); conv => { arg 2; simp (disch := first | assumption | omega) only [push_cast, ↓reduceIte, reduceIte, Nat.reduceEqDiff, Nat.reduceAdd, Nat.reduceSub, Nat.reduceMul, Nat.reduceBEq, Int.reduceNeg, d4, d5, d6, hgb, e1, e4, e5, e6, e7] }; conv => { arg 3; simp (disch := first | assumption | omega) only [push_cast, ↓reduceIte, reduceIte, Nat.reduceEqDiff, Nat.reduceAdd, Nat.reduceSub, Nat.reduceMul, Nat.reduceBEq, Int.reduceNeg, d4, d5, d6, hgb, e1, e4, e5, e6, e7] }; first | refine callP_plain ?_ | refine callP_yield ?_ | (refine callP_func ?_; conv => { arg 3; simp only [push_cast] }))
    | ((with_reducible refine resP_id ?_); conv => { arg 1; simp (disch := first | assumption | omega) only [push_cast, ↓reduceIte, reduceIte, Nat.reduceEqDiff, Nat.reduceAdd, Nat.reduceSub, Nat.reduceMul, Nat.reduceBEq, Int.reduceNeg, d4, d5, d6, hgb, e1, e4, e5, e6, e7] }; first | refine resP_one ?_ | refine resP_two ?_ | refine resP_three ?_ | refine resP_zero ?_)
    | refine wk_seq ?_ | refine wk_block ?_ | refine wk_scope ?_ | refine wk_inBlock ?_ | refine wk_inScope ?_ | refine wk_skip ?_ | refine wk_label ?_ | refine wk_region ?_ | refine wk_draw (by kernel_rfl) (by decide +kernel) ?_ | refine wk_drawn [(1, 15), (6, 15)] (by kernel_rfl) (by decide +kernel) ?_ | refine wo_nil ?_ | refine wk_exit ?_ | refine exitK_code ?_ | refine exitK_hit ?_ | refine exitK_miss rfl ?_ | refine exitK_inLoop ?_ | refine exitK_inScope ?_ | refine wk_cond ?_ | refine wk_ret ?_ | refine wk_nil ?_ | refine wo_dst rfl (opR_call ?_) | refine wo_nodst (opR_call ?_) | refine wo_dst rfl (opR_pick ?_) | refine wo_guard rfl rfl ?_ | refine wo_guardn rfl ?_ | refine wo_dst rfl (opR_pure ?_) | refine wo_nodst (opR_pure ?_)
    | refine wd_dst rfl (opR_call ?_) | refine wd_nodst (opR_call ?_) | refine wd_dst rfl (opR_pick ?_) | refine wd_guard rfl rfl ?_ | refine wd_guardn rfl ?_ | refine wd_dst rfl (opR_pure ?_) | refine wd_nodst (opR_pure ?_) | refine opR_call ?_ | refine opR_pick ?_ | refine opR_pure ?_ | (refine wd_nil ?_; refine doneD rfl rfl ?_ ?_) | refine again_nil | refine again_cons ?_ ?_ | refine again_plain rfl rfl rfl ?_ | refine again_guard rfl rfl rfl rfl ?_ | exact same_undef | exact same_of rfl rfl | refine give_ret ?_ | refine give_end ?_)
    rw [hm]
    exact ⟨⟨_, rfl, ⟨_, c', by rw [hvl], by rw [hvl, hcap]; exact Nat.le_refl _, fun _ => ⟨b, 0, flatE encU (vaU fs k), true, rfl, by simp only [next_set]; omega, by simp (disch := first | assumption | omega) only [push_cast, ↓reduceIte, reduceIte, Nat.reduceEqDiff, Nat.reduceAdd, Nat.reduceSub, Nat.reduceMul, Nat.reduceBEq, Int.reduceNeg, hgb], fun i hi => by rw [Nat.zero_add]; exact flatE_cut encU_len _ hi⟩⟩, rfl⟩, by (repeat (first | exact Gr.refl _ | assumption | (refine Gr.trans ?_ (by assumption)) | refine Gr.set ?_ (by first | exact Nat.le_refl _ | omega | (simp only [next_new, next_set]; omega)) _ | refine Gr.new ?_ _))⟩
end Go.Proofs.Ytfmiimehobcmaaa
/- Ladders that are made are valid; the total of canonical counts. -/
namespace Go.Proofs.Ytfmiimehobcmaaa
open Go.Ev
theorem vaU_get {fs : List Int} {k i : Nat} (hi : i < (vaU fs k).length) : (vaU fs k)[i] = (sg i, if i = 0 then 1 else 2 + fs[i - 1]?.getD 0 % 9) := by
  match i with
  | 0 => rfl
  | i + 1 => simp [vaU]
theorem sg_name : ∀ i, i < 8 → isNm (sg i) := by decide +kernel
theorem sg_ne : ∀ i, i < 8 → ∀ j, j < i → sg j ≠ sg i := by decide +kernel
theorem own_name : isNm own := by decide +kernel
theorem vaU_fac {fs : List Int} {k i : Nat} (hi : i < (vaU fs k).length) : facAt i (vaU fs k)[i].2 ∧ (vaU fs k)[i].2 ≤ 10 ∧ 1 ≤ (vaU fs k)[i].2 := by
  rw [vaU_get hi]
  have r1 := Int.emod_nonneg (fs[i - 1]?.getD 0) (show (9 : Int) ≠ 0 by omega)
  have r2 := Int.emod_lt_of_pos (fs[i - 1]?.getD 0) (show (0 : Int) < 9 by omega)
  by_cases h0 : i = 0
  · simp only [h0, if_true]
    exact ⟨⟨fun _ => rfl, fun h => absurd h (Nat.lt_irrefl 0)⟩, by decide, by decide⟩
  · simp only [h0, if_false]
    exact ⟨⟨fun h => absurd h h0, fun _ => ⟨by omega, by omega⟩⟩, by omega, by omega⟩
theorem vaU_val {fs : List Int} {k : Nat} : ∀ i, i ≤ (vaU fs k).length → 1 ≤ valU ((vaU fs k).take i) ∧ valU ((vaU fs k).take i) ≤ 10 ^ i
  | 0, _ => ⟨by show (1 : Int) ≤ 1; omega, by show (1 : Int) ≤ 10 ^ 0; decide⟩
  | i + 1, hi => by
    obtain ⟨a1, a2⟩ := vaU_val (fs := fs) (k := k) i (by omega)
    obtain ⟨_, b1, b2⟩ := vaU_fac (fs := fs) (k := k) (show i < (vaU fs k).length by omega)
    rw [valU_take (show i < (vaU fs k).length by omega)]
    have c1 := Int.mul_le_mul a1 b2 (by omega) (by omega)
    have c2 := Int.mul_le_mul a2 b1 (by omega) (by omega)
    rw [Int.pow_succ]
    omega
theorem vaU_ok (fs : List Int) {k : Nat} (hk : k ≤ 7) : ladOk own (vaU fs k) := by
  have hl := vaU_len fs k
  refine ⟨own_name, by omega, by omega, fun i hi => ?_, fun i hi => ⟨(vaU_fac hi).1, ?_⟩⟩
  · rw [vaU_get hi]
    refine ⟨sg_name i (by omega), fun ⟨u, hu, h1⟩ => ?_⟩
    obtain ⟨j, hj, rfl⟩ := List.mem_take_iff_getElem.1 hu
    rw [vaU_get (by omega)] at h1
    exact sg_ne i (by omega) j (by omega) h1
  · have h1 := (vaU_val (fs := fs) (k := k) (i + 1) (by omega)).2
    have h2 : (10 : Int) ^ (i + 1) ≤ 10 ^ 8 := by
      have : (10 : Nat) ^ (i + 1) ≤ 10 ^ 8 := Nat.pow_le_pow_right (by omega) (by omega)
      exact_mod_cast this
    have h3 : (10 : Int) ^ 8 = 100000000 := by decide
    omega

theorem emod_mul' {n a f : Int} (hn : 0 ≤ n) (ha : 0 ≤ a) (hf : 0 ≤ f) : n % (a * f) = n % a + n / a % f * a := by
  obtain ⟨N, rfl⟩ := Int.eq_ofNat_of_zero_le hn
  obtain ⟨A, rfl⟩ := Int.eq_ofNat_of_zero_le ha
  obtain ⟨F, rfl⟩ := Int.eq_ofNat_of_zero_le hf
  have := Nat.mod_mul (x := N) (a := A) (b := F)
  rw [← Int.natCast_mul, ← Int.natCast_emod, ← Int.natCast_ediv, ← Int.natCast_emod, ← Int.natCast_emod, ← Int.natCast_mul, ← Int.natCast_add, this, Nat.mul_comm A]
theorem emod_le' {n m : Int} (h0 : 0 ≤ n) (hm : 0 < m) : n % m ≤ n := by
  have h1 := Int.mul_ediv_add_emod n m
  have h2 := Int.mul_nonneg (show 0 ≤ m by omega) (Int.ediv_nonneg h0 (show 0 ≤ m by omega))
  omega
/-- the total of canonical counts is the number -/
theorem tot_split {us : Us} {n : Int} (h0 : 0 ≤ n) (h1 : n ≤ 1099511627776) (hv : ∀ k, k < us.length → 1 ≤ valU (us.take (k + 1))) (hf : ∀ i (hi : i < us.length), 1 ≤ us[i].2) (h1st : ∀ h : 0 < us.length, us[0].2 = 1) (hne : 0 < us.length) :
    totS us (splitL us n) us.length = some n := by
  have key : ∀ k, k < us.length → totS us (splitL us n) k = some (n % valU (us.take (k + 1))) := by
    intro k
    induction k with
    | zero =>
      intro hk
      have : valU (us.take (0 + 1)) = 1 := by
        rw [valU_take hk, h1st hk]; rfl
      rw [this, Int.emod_one]; rfl
    | succ k ih =>
      intro hk
      have ht := ih (by omega)
      have hlen := splitL_len us n
      rw [totS_succ ht (by omega), splitL_get]
      have hV := hv k (by omega)
      have hc : cntAt us n k = n / valU (us.take (k + 1)) % us[k + 1].2 := by
        unfold cntAt; rw [if_pos hk, facU_at hk]
      have hvt := valU_take hk
      have hf1 := hf (k + 1) hk
      rw [hc, hvt, emod_mul' h0 (by omega) (by omega)]
      generalize valU (us.take (k + 1)) = V at *
      have m1 := Int.emod_nonneg n (show V ≠ 0 by omega)
      have hle : n % V + n / V % us[k + 1].2 * V ≤ n := by
        rw [← emod_mul' h0 (by omega) (by omega)]
        exact emod_le' h0 (by have := Int.mul_le_mul hV hf1 (by omega) (by omega); omega)
      have hle2 : n / V % us[k + 1].2 ≤ (1099511627776 - n % V) / V := (Int.le_ediv_iff_mul_le (show 0 < V by omega)).2 (by omega)
      rw [if_neg (by omega)]
  obtain ⟨k, hk⟩ : ∃ k, us.length = k + 1 := ⟨us.length - 1, by omega⟩
  have ht := key k (by omega)
  have hlen := splitL_len us n
  rw [hk, totS_succ ht (by omega), splitL_get]
  have hV := hv k (by omega)
  have hc : cntAt us n k = n / valU (us.take (k + 1)) := by
    unfold cntAt; rw [if_neg (by omega)]
  rw [hc]
  generalize valU (us.take (k + 1)) = V at *
  have m1 := Int.emod_nonneg n (show V ≠ 0 by omega)
  have hs := Int.mul_ediv_add_emod n V
  have hcm := Int.mul_comm V (n / V)
  have hle2 : n / V ≤ (1099511627776 - n % V) / V := (Int.le_ediv_iff_mul_le (show 0 < V by omega)).2 (by omega)
  rw [if_neg (by omega)]
  congr 1
  omega
end Go.Proofs.Ytfmiimehobcmaaa
/- What is carried: numbers. -/
namespace Go.Proofs.Ytfmiimehobcmaaa
open Go.Ev
theorem round_near {n x : Int} (hx : 1 ≤ x) (h0 : 0 ≤ n) : (n + x / 2) / x * x ≤ n + x / 2 ∧ n + x / 2 < (n + x / 2) / x * x + x ∧ 0 ≤ (n + x / 2) / x * x ∧ (n + x / 2) / x * x % x = 0 := by
  have h1 := Int.mul_ediv_add_emod (n + x / 2) x
  have h2 := Int.emod_nonneg (n + x / 2) (show x ≠ 0 by omega)
  have h3 := Int.emod_lt_of_pos (n + x / 2) (show 0 < x by omega)
  have h4 : (n + x / 2) / x * x = x * ((n + x / 2) / x) := Int.mul_comm _ _
  have h5 := Int.ediv_nonneg (show 0 ≤ n + x / 2 by omega) (show 0 ≤ x by omega)
  have h6 := Int.mul_nonneg (show 0 ≤ x by omega) h5
  exact ⟨by omega, by omega, by omega, Int.mul_emod_left _ _⟩
theorem totS_step {us : Us} {cs : List Int} {k : Nat} {N : Int} (h : totS us cs (k + 1) = some N) : ∃ S, totS us cs k = some S ∧ N = S + cs[k]?.getD 0 * valU (us.take (k + 1)) := by
  cases ht : totS us cs k with
  | none => rw [totS_none ht (Nat.le_succ k)] at h; cases h
  | some S =>
    have h' : (if (1099511627776 - S) / valU (us.take (k + 1)) < cs[k]?.getD 0 then none else some (S + cs[k]?.getD 0 * valU (us.take (k + 1)))) = some N := by
      rw [← h]
      show _ = (match totS us cs k with
        | none => none
        | some t => if (1099511627776 - t) / valU (us.take (k + 1)) < cs[k]?.getD 0 then none else some (t + cs[k]?.getD 0 * valU (us.take (k + 1))))
      rw [ht]
    by_cases y : (1099511627776 - S) / valU (us.take (k + 1)) < cs[k]?.getD 0
    · rw [if_pos y] at h'; cases h'
    · rw [if_neg y] at h'
      cases h'
      exact ⟨S, rfl, rfl⟩
theorem totS_more {us : Us} {cs : List Int} {t : Int} (h1 : t ≤ 1099511627776) (hV : ∀ k, k < us.length → 1 ≤ valU (us.take (k + 1))) (ht : totS us cs cs.length = some t) : ∀ m, cs.length ≤ m → m ≤ us.length → totS us cs m = some t := by
  intro m hm
  induction m with
  | zero => intro _; rw [show (0 : Nat) = cs.length by omega]; exact ht
  | succ m ih =>
    intro hmu
    rcases Nat.lt_or_ge m cs.length with hlt | hge
    · rw [show m + 1 = cs.length by omega]; exact ht
    · have := ih hge (by omega)
      have hv := hV m (by omega)
      have d := Int.ediv_nonneg (show 0 ≤ 1099511627776 - t by omega) (show 0 ≤ valU (us.take (m + 1)) by omega)
      show (match totS us cs m with
        | none => none
        | some t => if (1099511627776 - t) / valU (us.take (m + 1)) < cs[m]?.getD 0 then none else some (t + cs[m]?.getD 0 * valU (us.take (m + 1)))) = _
      rw [this]
      dsimp only
      rw [List.getElem?_eq_none hge]
      simp only [Option.getD_none]
      rw [if_neg (by omega), Int.zero_mul, Int.add_zero]
theorem carS_tot {us : Us} {cs : List Int} (hV : ∀ k, k < us.length → 1 ≤ valU (us.take (k + 1))) : ∀ (k : Nat) (S : Int), k < us.length → totS us cs k = some S → carS us cs k = S / valU (us.take (k + 1))
  | 0, S, hk, h => by
    cases h
    rw [Int.zero_ediv]; rfl
  | k + 1, N, hk, h => by
    obtain ⟨S, hS, rfl⟩ := totS_step h
    have ih := carS_tot hV k S (by omega) hS
    have hv := hV k (by omega)
    show (carS us cs k + cs[k]?.getD 0) / facU us (k + 1) = _
    rw [ih, valU_take hk, facU_at hk, ← Int.ediv_ediv_of_nonneg (by omega), Int.add_mul_ediv_right _ _ (by omega)]
theorem val_mul {us : Us} {k : Nat} : ∀ (m : Nat), k ≤ m → m < us.length → ∃ W, valU (us.take (m + 1)) = valU (us.take (k + 1)) * W
  | 0, hk, hm => ⟨1, by rw [show k = 0 by omega, Int.mul_one]⟩
  | m + 1, hk, hm => by
    rcases Nat.lt_or_ge m k with h | h
    · exact ⟨1, by rw [show k = m + 1 by omega, Int.mul_one]⟩
    · obtain ⟨W, hW⟩ := val_mul (us := us) m h (by omega)
      exact ⟨W * us[m + 1].2, by rw [valU_take hm, hW, Int.mul_assoc]⟩
theorem tot_mul {us : Us} {cs : List Int} {k : Nat} {S : Int} (hk : k < us.length) (hS : totS us cs k = some S) : ∀ (m : Nat) (N : Int), k ≤ m → m ≤ us.length → totS us cs m = some N → ∃ T, N = S + valU (us.take (k + 1)) * T
  | 0, N, h1, h2, h => by
    rw [show k = 0 by omega] at hS
    rw [hS] at h; cases h
    exact ⟨0, by rw [Int.mul_zero, Int.add_zero]⟩
  | m + 1, N, h1, h2, h => by
    rcases Nat.lt_or_ge m k with hlt | hge
    · rw [show m + 1 = k by omega, hS] at h; cases h
      exact ⟨0, by rw [Int.mul_zero, Int.add_zero]⟩
    · obtain ⟨M, hM, rfl⟩ := totS_step h
      obtain ⟨T, hT⟩ := tot_mul hk hS m M hge (by omega) hM
      obtain ⟨W, hW⟩ := val_mul (us := us) m hge (by omega)
      exact ⟨T + cs[m]?.getD 0 * W, by rw [hW, hT, Int.mul_add, Int.mul_left_comm, Int.add_assoc]⟩
/-- each count, with the carry into its unit, is what stays and what is carried out of it -/
theorem keeps {us : Us} {cs : List Int} {N : Int} (hV : ∀ k, k < us.length → 1 ≤ valU (us.take (k + 1))) (hf : ∀ i (hi : i < us.length), 1 ≤ us[i].2) (hN : totS us cs us.length = some N) {i : Nat} (hi : i < us.length) :
    (∀ h : i + 1 < us.length, carS us cs i + cs[i]?.getD 0 = cntAt us N i + carS us cs (i + 1) * us[i + 1].2) ∧ (¬ i + 1 < us.length → carS us cs i + cs[i]?.getD 0 = cntAt us N i) := by
  have hv := hV i hi
  have some_at : ∀ m, m ≤ us.length → ∃ S, totS us cs m = some S := fun m hm => by
    cases ht : totS us cs m with
    | none => rw [totS_none ht hm] at hN; cases hN
    | some S => exact ⟨S, rfl⟩
  obtain ⟨S', hS'⟩ := some_at (i + 1) (by omega)
  obtain ⟨S, hS, hSS⟩ := totS_step hS'
  have hc := carS_tot hV i S hi hS
  constructor
  · intro h
    obtain ⟨T, hT⟩ := tot_mul h hS' us.length N (by omega) (Nat.le_refl _) hN
    have hf1 := hf (i + 1) h
    have hcn : cntAt us N i = N / valU (us.take (i + 1)) % us[i + 1].2 := by unfold cntAt; rw [if_pos h, facU_at h]
    have hnext : carS us cs (i + 1) = (carS us cs i + cs[i]?.getD 0) / us[i + 1].2 := by rw [← facU_at h]; rfl
    rw [hnext, hcn, hT, hSS, valU_take h, hc]
    generalize valU (us.take (i + 1)) = V at *
    generalize us[i + 1].2 = f at *
    generalize cs[i]?.getD 0 = c at *
    have e1 : (S + c * V + V * f * T) / V = S / V + c + T * f := by
      rw [show S + c * V + V * f * T = S + (c + T * f) * V from by rw [Int.add_mul, Int.add_assoc, Int.mul_assoc T f V, Int.mul_comm T (f * V), Int.mul_comm f V], Int.add_mul_ediv_right _ _ (by omega), Int.add_assoc]
    rw [e1, Int.add_mul_emod_self_right]
    have h1 := Int.mul_ediv_add_emod (S / V + c) f
    have h2 : (S / V + c) / f * f = f * ((S / V + c) / f) := Int.mul_comm _ _
    omega
  · intro h
    have hl : i + 1 = us.length := by omega
    rw [hl, hN] at hS'
    cases hS'
    have hcn : cntAt us N i = N / valU (us.take (i + 1)) := by unfold cntAt; rw [if_neg h]
    rw [hcn, hSS, hc, Int.add_mul_ediv_right _ _ (by omega)]
end Go.Proofs.Ytfmiimehobcmaaa
