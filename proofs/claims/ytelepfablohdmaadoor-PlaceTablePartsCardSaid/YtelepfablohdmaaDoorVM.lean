/- Contract: Table, of heads of at most 15 digits. -/
import Derived.Test.YtelepfablohdmaaDoorVK
set_option linter.unusedSimpArgs false
set_option linter.unusedVariables false
/- Contract: ByTable, of heads of at most 15 digits. -/
namespace Go.Proofs.YtelepfablohdmaaDoor
open Go.Ev
theorem pin_own {H : AHeap} {W : List (Value × Int)} {L : List (List Int × Int)} {bo : Nat} (hB : W ≠ [] → bo < H.next ∧ H.get bo = some (.cells (flatE encP W) 33 true)) (hW : W.length ≤ 1000) (h : els H W L) : PIn H (.slice (ownB W bo) W.length W.length) L :=
  ⟨W, h.1, own_in encP_len (by rw [(capLo_small (c := W.length) (by unfold EX; omega)).1]; exact Nat.le_refl _) (fun hn => (hB hn).1) (fun hn => ⟨true, (hB hn).2⟩), h.2⟩
set_option maxRecDepth 100000 in
set_option maxHeartbeats 8000000 in
theorem bt1_w (l b : List Int) (hl : valid l) (hl0 : l ≠ []) (ll : l.length ≤ 15) (hb : digs b) (lb : b.length ≤ 16) (pb pl pp : Nat) (vb vl : Value) (h : AHeap) (hgb : h.get pb = some (.cells [vb] 22 true)) (hgl : h.get pl = some (.cells [vl] 22 true)) (hgp : h.get pp = some (.cells [.slice none 0 0] 59 true)) (hpb : pb < h.next) (hpl : pl < h.next) (hpp : pp < h.next) (hib : IIn h vb b) (hil : IIn h vl l) (okb : okC vb = true) :
    Wc pr (.func 76) [.pointer (some ⟨pb, 0, none⟩), .pointer (some ⟨pl, 0, none⟩), .pointer (some ⟨pp, 0, none⟩)] h fun _ h' => ∃ W L bo, h'.get pp = some (.cells [.slice (ownB W bo) W.length W.length] 59 true) ∧ (W ≠ [] → h.next ≤ bo ∧ bo < h'.next ∧ h'.get bo = some (.cells (flatE encP W) 33 true)) ∧ els h' W L ∧ cInv (valN l) 0 (valN b) (2 * b.length) L ∧ h.next ≤ h'.next ∧ (∀ c, c < h.next → c ≠ pp → h'.get c = h.get c) := by
  have hX0 : valN l ≠ 0 := Nat.ne_of_gt (valN_pos hl hl0)
  have hX : valN l < 60 ^ 15 := Nat.lt_of_lt_of_le (valN_lt hl.1) (Nat.pow_le_pow_right (by decide) ll)
  have wn := fun H hi => numfrom_w l hl.1 0 (by omega) vl H hi
  rw [Nat.pow_zero, Nat.mul_one] at wn
  have wc := fun H hi => contribs_w (valN l) b hb lb hX0 hX vb H hi
  rw [num_cells] at wc wn
  clear hX hX0
  obtain ⟨ab, cb, rfl, _, _⟩ := id hib
  obtain ⟨al, cl, rfl, _, _⟩ := id hil
  refine wc_func Tryd.func76 rfl rfl rfl rfl ?_
  generalize hCX : ints .u8 (numD (valN l)) = CX at *
  repeat' (first
    | ((with_reducible first | refine optP_id ?_ | refine resP_id ?_ | refine callT_of ?_); conv => { arg 1; simp (disch := first | assumption | omega) only [push_cast, ↓reduceIte, reduceIte, Nat.reduceEqDiff, Nat.reduceAdd, Nat.reduceSub, Nat.reduceMul, Nat.reduceBEq, Int.reduceNeg, hgb, hgl] }; first | ((with_reducible refine optP_id ?_); refine optP_some ?_) | ((with_reducible refine resP_id ?_); refine resP_zero ?_) | ((with_reducible refine callT_to ?_); refine callP_plain ?_))
    | refine wk_seq ?_ | refine wk_region ?_ | refine wk_draw (by kernel_rfl) (by decide +kernel) ?_ | refine wk_drawn [(0, 4)] (by kernel_rfl) (by decide +kernel) ?_ | refine wo_nil ?_ | refine wk_nil ?_ | refine wo_dst rfl (opR_call ?_) | refine wo_nodst (opR_call ?_) | refine wo_dst rfl (opR_pure ?_) | refine wo_nodst (opR_pure ?_)
    | refine wd_dst rfl (opR_call ?_) | refine wd_nodst (opR_call ?_) | refine wd_dst rfl (opR_pick ?_) | refine wd_guard rfl rfl ?_ | refine wd_guardn rfl ?_ | refine wd_dst rfl (opR_pure ?_) | refine wd_nodst (opR_pure ?_) | refine opR_call ?_ | refine opR_pick ?_ | refine opR_pure ?_ | (refine wd_nil ?_; refine doneD rfl rfl ?_ ?_) | refine again_nil | refine again_cons ?_ ?_ | refine again_plain rfl rfl rfl ?_ | refine again_guard rfl rfl rfl rfl ?_ | exact same_undef | exact same_of rfl rfl | refine give_ret ?_ | refine give_end ?_)
  refine (wn _ hil).mono ?_
  rintro _ h1 ⟨rfl, g1⟩; have n1 := g1.1; have k1 := g1.2; try simp only [next_new, next_set] at n1 k1
  have hgb1 : h1.get pb = some (.cells [.slice ab b.length cb] 22 true) := by rw [k1 _ hpb]; exact hgb
  repeat' (first
    | ((with_reducible first | refine optP_id ?_ | refine resP_id ?_ | refine callT_of ?_); conv => { arg 1; simp (disch := first | assumption | omega) only [push_cast, ↓reduceIte, reduceIte, Nat.reduceEqDiff, Nat.reduceAdd, Nat.reduceSub, Nat.reduceMul, Nat.reduceBEq, Int.reduceNeg, k1, hgb, hgl] }; first | ((with_reducible refine optP_id ?_); refine optP_some ?_) | ((with_reducible refine resP_id ?_); refine resP_zero ?_) | ((with_reducible refine callT_to ?_); refine callP_plain ?_))
    | refine wk_seq ?_ | refine wk_region ?_ | refine wk_draw (by kernel_rfl) (by decide +kernel) ?_ | refine wk_drawn [(0, 4)] (by kernel_rfl) (by decide +kernel) ?_ | refine wo_nil ?_ | refine wk_nil ?_ | refine wo_dst rfl (opR_call ?_) | refine wo_nodst (opR_call ?_) | refine wo_dst rfl (opR_pure ?_) | refine wo_nodst (opR_pure ?_)
    | refine wd_dst rfl (opR_call ?_) | refine wd_nodst (opR_call ?_) | refine wd_dst rfl (opR_pick ?_) | refine wd_guard rfl rfl ?_ | refine wd_guardn rfl ?_ | refine wd_dst rfl (opR_pure ?_) | refine wd_nodst (opR_pure ?_) | refine opR_call ?_ | refine opR_pick ?_ | refine opR_pure ?_ | (refine wd_nil ?_; refine doneD rfl rfl ?_ ?_) | refine again_nil | refine again_cons ?_ ?_ | refine again_plain rfl rfl rfl ?_ | refine again_guard rfl rfl rfl rfl ?_ | exact same_undef | exact same_of rfl rfl | refine give_ret ?_ | refine give_end ?_)
  refine (wc _ (SlIn.gr hib g1)).mono ?_
  rintro _ h2 ⟨⟨W, L, bo, rfl, hB, hel, hci⟩, g2⟩; have n2 := g2.1; have k2 := g2.2; try simp only [next_new, next_set] at n2 k2
  have hgp2 : h2.get pp = some (.cells [.slice none 0 0] 59 true) := by rw [k2 _ (by omega), k1 _ hpp]; exact hgp
  have hgb2 : h2.get pb = some (.cells [.slice ab b.length cb] 22 true) := by rw [k2 _ (by omega)]; exact hgb1
  repeat' (first
    | ((with_reducible first | refine optP_id ?_ | refine resP_id ?_ | refine callT_of ?_); conv => { arg 1; simp (disch := first | assumption | omega) only [push_cast, ↓reduceIte, reduceIte, Nat.reduceEqDiff, Nat.reduceAdd, Nat.reduceSub, Nat.reduceMul, Nat.reduceBEq, Int.reduceNeg, k1, k2, hgb, hgl, hgp] }; first | ((with_reducible refine optP_id ?_); refine optP_some ?_) | ((with_reducible refine resP_id ?_); refine resP_zero ?_) | ((with_reducible refine callT_to ?_); refine callP_plain ?_))
    | refine wk_seq ?_ | refine wk_region ?_ | refine wk_draw (by kernel_rfl) (by decide +kernel) ?_ | refine wk_drawn [(0, 4)] (by kernel_rfl) (by decide +kernel) ?_ | refine wo_nil ?_ | refine wk_nil ?_ | refine wo_dst rfl (opR_call ?_) | refine wo_nodst (opR_call ?_) | refine wo_dst rfl (opR_pure ?_) | refine wo_nodst (opR_pure ?_)
    | refine wd_dst rfl (opR_call ?_) | refine wd_nodst (opR_call ?_) | refine wd_dst rfl (opR_pick ?_) | refine wd_guard rfl rfl ?_ | refine wd_guardn rfl ?_ | refine wd_dst rfl (opR_pure ?_) | refine wd_nodst (opR_pure ?_) | refine opR_call ?_ | refine opR_pick ?_ | refine opR_pure ?_ | (refine wd_nil ?_; refine doneD rfl rfl ?_ ?_) | refine again_nil | refine again_cons ?_ ?_ | refine again_plain rfl rfl rfl ?_ | refine again_guard rfl rfl rfl rfl ?_ | exact same_undef | exact same_of rfl rfl | refine give_ret ?_ | refine give_end ?_)
  · exact same_of rfl okb
  · refine ⟨W, L, bo, by rw [get_set_self], fun hn => ⟨by have := (hB hn).1; omega, (hB hn).2.1, by have := hB hn; rw [get_set_ne (by omega)]; exact this.2.2⟩, hel.keep (H' := h2.set pp _) (p := True) (q := pp) (Nat.le_refl _) (fun c hc hne => get_set_ne (Ne.symm (hne trivial)) _) (fun _ => hgp2) (by decide), hci, by simp only [next_set]; omega, fun c hc hne => by rw [get_set_ne (Ne.symm hne), k2 _ (by omega), k1 _ hc]⟩
theorem len_ne {l : List Int} (h : l ≠ []) : ¬ (l.length : Int) = 0 := fun e => h (List.eq_nil_of_length_eq_zero (by omega))
set_option maxRecDepth 100000 in
set_option maxHeartbeats 8000000 in
theorem bytable_w (l b : List Int) (hl : valid l) (ll : l.length ≤ 15) (hb : valid b) (lb : b.length ≤ 16) (vl vb : Value) (h : AHeap) (hil : IIn h vl l) (hib : IIn h vb b) (okl : okC vl = true) (okb : okC vb = true) :
    Wc pr (.func 35) [vl, vb] h fun r h' => (∃ (L : List (List Int × Int)) (a : Option Addr) (c : Nat), r = .tuple #[.slice a L.length c, .int .i64 0] ∧ PIn h' (.slice a L.length c) L ∧ cInv (valN l) 0 (valN b) (2 * b.length) L) ∧ Gr h h' := by
  have hil0 := hil
  have hib0 := hib
  obtain ⟨ab, cb, rfl, _, _⟩ := hib
  obtain ⟨al, cl, rfl, _, _⟩ := hil
  refine wc_func Tryd.func35 rfl rfl rfl rfl ?_
  repeat' (first
    | ((with_reducible first | refine optP_id ?_ | refine condP_id ?_ | refine resP_id ?_ | refine callT_of ?_); conv => { arg 1; simp (disch := first | assumption | omega) only [push_cast, ↓reduceIte, reduceIte, Nat.reduceEqDiff, Nat.reduceAdd, Nat.reduceSub, Nat.reduceMul, Nat.reduceBEq, Int.reduceNeg] }; first | ((with_reducible refine optP_id ?_); refine optP_some ?_) | ((with_reducible refine condP_id ?_); first | refine qcy ?_ | refine qcx ?_ | refine qco ?_ | refine condP_decn (fun hc => ?_) (fun hc => ?_) | refine condP_dec (fun hc => ?_) (fun hc => ?_) | refine qct ?_ | refine qcf ?_ | refine condP_bool (fun hc => ?_) (fun hc => ?_)) | ((with_reducible refine resP_id ?_); refine resP_two ?_) | ((with_reducible refine callT_to ?_); refine callP_plain ?_))
    | refine wk_seq ?_ | refine wk_region ?_ | refine wk_skip ?_ | refine wk_draw (by kernel_rfl) (by decide +kernel) ?_ | refine wk_drawn [(2, 1)] (by kernel_rfl) (by decide +kernel) ?_ | refine wk_drawn [(2, 5)] (by kernel_rfl) (by decide +kernel) ?_ | refine wo_nil ?_ | refine wk_cond ?_ | refine wk_ret ?_ | refine wk_nil ?_ | refine wo_dst rfl (opR_call ?_) | refine wo_nodst (opR_call ?_) | refine wo_dst rfl (opR_pure ?_) | refine wo_nodst (opR_pure ?_)
    | refine wd_dst rfl (opR_call ?_) | refine wd_nodst (opR_call ?_) | refine wd_dst rfl (opR_pick ?_) | refine wd_guard rfl rfl ?_ | refine wd_guardn rfl ?_ | refine wd_dst rfl (opR_pure ?_) | refine wd_nodst (opR_pure ?_) | refine opR_call ?_ | refine opR_pick ?_ | refine opR_pure ?_ | (refine wd_nil ?_; refine doneD rfl rfl ?_ ?_) | refine again_nil | refine again_cons ?_ ?_ | refine again_plain rfl rfl rfl ?_ | refine again_guard rfl rfl rfl rfl ?_ | exact same_undef | exact same_of rfl rfl | refine give_ret ?_ | refine give_end ?_)
  refine (check_w l _ _ (SlIn.gr hil0 (by (repeat (first | exact Gr.refl _ | assumption | (refine Gr.trans ?_ (by assumption)) | refine Gr.set ?_ (by first | exact Nat.le_refl _ | omega | (simp only [next_new, next_set]; omega)) _ | refine Gr.new ?_ _)))) (by omega)).mono ?_
  rintro _ _ ⟨rfl, rfl⟩
  rw [valid_check hl (by omega)]
  repeat' (first
    | ((with_reducible first | refine optP_id ?_ | refine condP_id ?_ | refine resP_id ?_ | refine callT_of ?_); conv => { arg 1; simp (disch := first | assumption | omega) only [push_cast, ↓reduceIte, reduceIte, Nat.reduceEqDiff, Nat.reduceAdd, Nat.reduceSub, Nat.reduceMul, Nat.reduceBEq, Int.reduceNeg] }; first | ((with_reducible refine optP_id ?_); refine optP_some ?_) | ((with_reducible refine condP_id ?_); first | refine qcy ?_ | refine qcx ?_ | refine qco ?_ | refine condP_decn (fun hc => ?_) (fun hc => ?_) | refine condP_dec (fun hc => ?_) (fun hc => ?_) | refine qct ?_ | refine qcf ?_ | refine condP_bool (fun hc => ?_) (fun hc => ?_)) | ((with_reducible refine resP_id ?_); refine resP_two ?_) | ((with_reducible refine callT_to ?_); refine callP_plain ?_))
    | refine wk_seq ?_ | refine wk_region ?_ | refine wk_skip ?_ | refine wk_draw (by kernel_rfl) (by decide +kernel) ?_ | refine wk_drawn [(2, 1)] (by kernel_rfl) (by decide +kernel) ?_ | refine wk_drawn [(2, 5)] (by kernel_rfl) (by decide +kernel) ?_ | refine wo_nil ?_ | refine wk_cond ?_ | refine wk_ret ?_ | refine wk_nil ?_ | refine wo_dst rfl (opR_call ?_) | refine wo_nodst (opR_call ?_) | refine wo_dst rfl (opR_pure ?_) | refine wo_nodst (opR_pure ?_)
    | refine wd_dst rfl (opR_call ?_) | refine wd_nodst (opR_call ?_) | refine wd_dst rfl (opR_pick ?_) | refine wd_guard rfl rfl ?_ | refine wd_guardn rfl ?_ | refine wd_dst rfl (opR_pure ?_) | refine wd_nodst (opR_pure ?_) | refine opR_call ?_ | refine opR_pick ?_ | refine opR_pure ?_ | (refine wd_nil ?_; refine doneD rfl rfl ?_ ?_) | refine again_nil | refine again_cons ?_ ?_ | refine again_plain rfl rfl rfl ?_ | refine again_guard rfl rfl rfl rfl ?_ | exact same_undef | exact same_of rfl rfl | refine give_ret ?_ | refine give_end ?_)
  refine (check_w b _ _ (SlIn.gr hib0 (by (repeat (first | exact Gr.refl _ | assumption | (refine Gr.trans ?_ (by assumption)) | refine Gr.set ?_ (by first | exact Nat.le_refl _ | omega | (simp only [next_new, next_set]; omega)) _ | refine Gr.new ?_ _)))) (by omega)).mono ?_
  rintro _ _ ⟨rfl, rfl⟩
  rw [valid_check hb lb]
  repeat' (first
    | ((with_reducible first | refine optP_id ?_ | refine condP_id ?_ | refine resP_id ?_ | refine callT_of ?_); conv => { arg 1; simp (disch := first | assumption | omega) only [push_cast, ↓reduceIte, reduceIte, Nat.reduceEqDiff, Nat.reduceAdd, Nat.reduceSub, Nat.reduceMul, Nat.reduceBEq, Int.reduceNeg] }; first | ((with_reducible refine optP_id ?_); refine optP_some ?_) | ((with_reducible refine condP_id ?_); first | refine qcy ?_ | refine qcx ?_ | refine qco ?_ | refine condP_decn (fun hc => ?_) (fun hc => ?_) | refine condP_dec (fun hc => ?_) (fun hc => ?_) | refine qct ?_ | refine qcf ?_ | refine condP_bool (fun hc => ?_) (fun hc => ?_)) | ((with_reducible refine resP_id ?_); refine resP_two ?_) | ((with_reducible refine callT_to ?_); refine callP_plain ?_))
    | refine wk_seq ?_ | refine wk_region ?_ | refine wk_skip ?_ | refine wk_draw (by kernel_rfl) (by decide +kernel) ?_ | refine wk_drawn [(2, 1)] (by kernel_rfl) (by decide +kernel) ?_ | refine wk_drawn [(2, 5)] (by kernel_rfl) (by decide +kernel) ?_ | refine wo_nil ?_ | refine wk_cond ?_ | refine wk_ret ?_ | refine wk_nil ?_ | refine wo_dst rfl (opR_call ?_) | refine wo_nodst (opR_call ?_) | refine wo_dst rfl (opR_pure ?_) | refine wo_nodst (opR_pure ?_)
    | refine wd_dst rfl (opR_call ?_) | refine wd_nodst (opR_call ?_) | refine wd_dst rfl (opR_pick ?_) | refine wd_guard rfl rfl ?_ | refine wd_guardn rfl ?_ | refine wd_dst rfl (opR_pure ?_) | refine wd_nodst (opR_pure ?_) | refine opR_call ?_ | refine opR_pick ?_ | refine opR_pure ?_ | (refine wd_nil ?_; refine doneD rfl rfl ?_ ?_) | refine again_nil | refine again_cons ?_ ?_ | refine again_plain rfl rfl rfl ?_ | refine again_guard rfl rfl rfl rfl ?_ | exact same_undef | exact same_of rfl rfl | refine give_ret ?_ | refine give_end ?_)
  refine (or_w 0 0 _ _ _ (by simp (disch := first | assumption | omega) only [push_cast, ↓reduceIte, reduceIte, Nat.reduceEqDiff, Nat.reduceAdd, Nat.reduceSub, Nat.reduceMul, Nat.reduceBEq, Int.reduceNeg])).mono ?_
  rintro _ _ ⟨rfl, rfl⟩
  rw [if_neg (fun h => h rfl)]
  have sme : same (Value.slice ab b.length cb) (Value.slice ab b.length cb) = true := same_of rfl okb
  by_cases h0 : l = []
  · have hz : (l.length : Int) = 0 := by rw [h0]; rfl
    repeat' (first
    | ((with_reducible first | refine optP_id ?_ | refine condP_id ?_ | refine resP_id ?_ | refine callT_of ?_); conv => { arg 1; simp (disch := first | assumption | omega) only [push_cast, ↓reduceIte, reduceIte, Nat.reduceEqDiff, Nat.reduceAdd, Nat.reduceSub, Nat.reduceMul, Nat.reduceBEq, Int.reduceNeg] }; first | ((with_reducible refine optP_id ?_); refine optP_some ?_) | ((with_reducible refine condP_id ?_); first | refine qcy ?_ | refine qcx ?_ | refine qco ?_ | refine condP_decn (fun hc => ?_) (fun hc => ?_) | refine condP_dec (fun hc => ?_) (fun hc => ?_) | refine qct ?_ | refine qcf ?_ | refine condP_bool (fun hc => ?_) (fun hc => ?_)) | ((with_reducible refine resP_id ?_); refine resP_two ?_) | ((with_reducible refine callT_to ?_); refine callP_plain ?_))
    | refine wk_seq ?_ | refine wk_region ?_ | refine wk_skip ?_ | refine wk_draw (by kernel_rfl) (by decide +kernel) ?_ | refine wk_drawn [(2, 1)] (by kernel_rfl) (by decide +kernel) ?_ | refine wk_drawn [(2, 5)] (by kernel_rfl) (by decide +kernel) ?_ | refine wo_nil ?_ | refine wk_cond ?_ | refine wk_ret ?_ | refine wk_nil ?_ | refine wo_dst rfl (opR_call ?_) | refine wo_nodst (opR_call ?_) | refine wo_dst rfl (opR_pure ?_) | refine wo_nodst (opR_pure ?_)
    | refine wd_dst rfl (opR_call ?_) | refine wd_nodst (opR_call ?_) | refine wd_dst rfl (opR_pick ?_) | refine wd_guard rfl rfl ?_ | refine wd_guardn rfl ?_ | refine wd_dst rfl (opR_pure ?_) | refine wd_nodst (opR_pure ?_) | refine opR_call ?_ | refine opR_pick ?_ | refine opR_pure ?_ | (refine wd_nil ?_; refine doneD rfl rfl ?_ ?_) | refine again_nil | refine again_cons ?_ ?_ | refine again_plain rfl rfl rfl ?_ | refine again_guard rfl rfl rfl rfl ?_ | exact same_undef | exact same_of rfl rfl | refine give_ret ?_ | refine give_end ?_)
    · exact sme
    · exact ⟨⟨[], none, 0, rfl, ⟨[], rfl, ⟨none, 0, rfl, Nat.zero_le _, fun h => absurd rfl h⟩, fun i hi => absurd hi (Nat.not_lt_zero i)⟩, by rw [h0]; exact ⟨Nat.zero_le _, fun x h => (nomatch h), by simp [valN]⟩⟩, by (repeat (first | exact Gr.refl _ | assumption | (refine Gr.trans ?_ (by assumption)) | refine Gr.set ?_ (by first | exact Nat.le_refl _ | omega | (simp only [next_new, next_set]; omega)) _ | refine Gr.new ?_ _))⟩
  · have hz := len_ne h0
    repeat' (first
    | ((with_reducible first | refine optP_id ?_ | refine condP_id ?_ | refine resP_id ?_ | refine callT_of ?_); conv => { arg 1; simp (disch := first | assumption | omega) only [push_cast, ↓reduceIte, reduceIte, Nat.reduceEqDiff, Nat.reduceAdd, Nat.reduceSub, Nat.reduceMul, Nat.reduceBEq, Int.reduceNeg] }; first | ((with_reducible refine optP_id ?_); refine optP_some ?_) | ((with_reducible refine condP_id ?_); first | refine qcy ?_ | refine qcx ?_ | refine qco ?_ | refine condP_decn (fun hc => ?_) (fun hc => ?_) | refine condP_dec (fun hc => ?_) (fun hc => ?_) | refine qct ?_ | refine qcf ?_ | refine condP_bool (fun hc => ?_) (fun hc => ?_)) | ((with_reducible refine resP_id ?_); refine resP_two ?_) | ((with_reducible refine callT_to ?_); refine callP_plain ?_))
    | refine wk_seq ?_ | refine wk_region ?_ | refine wk_skip ?_ | refine wk_draw (by kernel_rfl) (by decide +kernel) ?_ | refine wk_drawn [(2, 1)] (by kernel_rfl) (by decide +kernel) ?_ | refine wk_drawn [(2, 5)] (by kernel_rfl) (by decide +kernel) ?_ | refine wo_nil ?_ | refine wk_cond ?_ | refine wk_ret ?_ | refine wk_nil ?_ | refine wo_dst rfl (opR_call ?_) | refine wo_nodst (opR_call ?_) | refine wo_dst rfl (opR_pure ?_) | refine wo_nodst (opR_pure ?_)
    | refine wd_dst rfl (opR_call ?_) | refine wd_nodst (opR_call ?_) | refine wd_dst rfl (opR_pick ?_) | refine wd_guard rfl rfl ?_ | refine wd_guardn rfl ?_ | refine wd_dst rfl (opR_pure ?_) | refine wd_nodst (opR_pure ?_) | refine opR_call ?_ | refine opR_pick ?_ | refine opR_pure ?_ | (refine wd_nil ?_; refine doneD rfl rfl ?_ ?_) | refine again_nil | refine again_cons ?_ ?_ | refine again_plain rfl rfl rfl ?_ | refine again_guard rfl rfl rfl rfl ?_ | exact same_undef | exact same_of rfl rfl | refine give_ret ?_ | refine give_end ?_)
    · exact sme
    · refine att_w ?_
      refine (bt1_w l b hl h0 ll hb.1 lb (h.next + 1) h.next (h.next + 1 + 1) _ _ _ (by simp (disch := first | assumption | omega) only [push_cast, ↓reduceIte, reduceIte, Nat.reduceEqDiff, Nat.reduceAdd, Nat.reduceSub, Nat.reduceMul, Nat.reduceBEq, Int.reduceNeg]) (by simp (disch := first | assumption | omega) only [push_cast, ↓reduceIte, reduceIte, Nat.reduceEqDiff, Nat.reduceAdd, Nat.reduceSub, Nat.reduceMul, Nat.reduceBEq, Int.reduceNeg]) (by simp (disch := first | assumption | omega) only [push_cast, ↓reduceIte, reduceIte, Nat.reduceEqDiff, Nat.reduceAdd, Nat.reduceSub, Nat.reduceMul, Nat.reduceBEq, Int.reduceNeg]) (by simp only [next_new]; omega) (by simp only [next_new]; omega) (by simp only [next_new]; omega) (SlIn.gr hib0 (by (repeat (first | exact Gr.refl _ | assumption | (refine Gr.trans ?_ (by assumption)) | refine Gr.set ?_ (by first | exact Nat.le_refl _ | omega | (simp only [next_new, next_set]; omega)) _ | refine Gr.new ?_ _)))) (SlIn.gr hil0 (by (repeat (first | exact Gr.refl _ | assumption | (refine Gr.trans ?_ (by assumption)) | refine Gr.set ?_ (by first | exact Nat.le_refl _ | omega | (simp only [next_new, next_set]; omega)) _ | refine Gr.new ?_ _)))) okb).mono ?_
      rintro _ h3 ⟨W, L, bo, hp3, hB, hel, hci, n3, k3⟩
      simp only [next_new] at n3 k3 hB ⊢
      refine ⟨by rw [k3 _ (by omega) (by omega)]; simp (disch := first | assumption | omega) only [push_cast, ↓reduceIte, reduceIte, Nat.reduceEqDiff, Nat.reduceAdd, Nat.reduceSub, Nat.reduceMul, Nat.reduceBEq, Int.reduceNeg], by omega, fun h4 g4 => ?_⟩
      have n4 := g4.1
      have k4 := g4.2
      have hp4 : h4.get (h.next + 1 + 1) = some (.cells [.slice (ownB W bo) W.length W.length] 59 true) := by rw [k4 _ (by omega)]; exact hp3
      have hB4 : W ≠ [] → bo < h4.next ∧ h4.get bo = some (.cells (flatE encP W) 33 true) := fun hn => ⟨by have := (hB hn).2.1; omega, by rw [k4 _ (hB hn).2.1]; exact (hB hn).2.2⟩
      have hel4 := hel.gr g4
      have hW : W.length ≤ 1000 := by have := hci.1; have := hel.1; omega
      have gr4 : Gr h h4 := ⟨by omega, fun c hc => by rw [k4 _ (by omega), k3 _ (by omega) (by omega)]; simp (disch := first | assumption | omega) only [push_cast, ↓reduceIte, reduceIte, Nat.reduceEqDiff, Nat.reduceAdd, Nat.reduceSub, Nat.reduceMul, Nat.reduceBEq, Int.reduceNeg]⟩
      have okw : okC (.slice (ownB W bo) W.length W.length) = true := by cases W <;> rfl
      have smw : same (.slice (ownB W bo) W.length W.length) (.slice (ownB W bo) W.length W.length) = true := same_of rfl okw
      repeat' (first
    | ((with_reducible first | refine optP_id ?_ | refine condP_id ?_ | refine resP_id ?_ | refine callT_of ?_); conv => { arg 1; simp (disch := first | assumption | omega) only [push_cast, ↓reduceIte, reduceIte, Nat.reduceEqDiff, Nat.reduceAdd, Nat.reduceSub, Nat.reduceMul, Nat.reduceBEq, Int.reduceNeg, hp4] }; first | ((with_reducible refine optP_id ?_); refine optP_some ?_) | ((with_reducible refine condP_id ?_); first | refine qcy ?_ | refine qcx ?_ | refine qco ?_ | refine condP_decn (fun hc => ?_) (fun hc => ?_) | refine condP_dec (fun hc => ?_) (fun hc => ?_) | refine qct ?_ | refine qcf ?_ | refine condP_bool (fun hc => ?_) (fun hc => ?_)) | ((with_reducible refine resP_id ?_); refine resP_two ?_) | ((with_reducible refine callT_to ?_); refine callP_plain ?_))
    | refine wk_seq ?_ | refine wk_region ?_ | refine wk_skip ?_ | refine wk_draw (by kernel_rfl) (by decide +kernel) ?_ | refine wk_drawn [(2, 1)] (by kernel_rfl) (by decide +kernel) ?_ | refine wk_drawn [(2, 5)] (by kernel_rfl) (by decide +kernel) ?_ | refine wo_nil ?_ | refine wk_cond ?_ | refine wk_ret ?_ | refine wk_nil ?_ | refine wo_dst rfl (opR_call ?_) | refine wo_nodst (opR_call ?_) | refine wo_dst rfl (opR_pure ?_) | refine wo_nodst (opR_pure ?_)
    | refine wd_dst rfl (opR_call ?_) | refine wd_nodst (opR_call ?_) | refine wd_dst rfl (opR_pick ?_) | refine wd_guard rfl rfl ?_ | refine wd_guardn rfl ?_ | refine wd_dst rfl (opR_pure ?_) | refine wd_nodst (opR_pure ?_) | refine opR_call ?_ | refine opR_pick ?_ | refine opR_pure ?_ | (refine wd_nil ?_; refine doneD rfl rfl ?_ ?_) | refine again_nil | refine again_cons ?_ ?_ | refine again_plain rfl rfl rfl ?_ | refine again_guard rfl rfl rfl rfl ?_ | exact same_undef | exact same_of rfl rfl | refine give_ret ?_ | refine give_end ?_)
      all_goals first | exact smw | skip
      have hg6 : ∀ ob ob2, Gr h4 ((h4.new ob).set h4.next ob2) := fun ob ob2 => (Gr.new (Gr.refl _) ob).set (Nat.le_refl _) ob2
      refine ⟨⟨L, ownB W bo, W.length, by rw [← hel.1], ?_, hci⟩, ?_⟩
      · rw [← hel.1]
        refine pin_own (fun hn => ⟨?_, ?_⟩) hW ((hel4.gr (hg6 _ _)).keep (H' := _) (p := True) (q := h.next + 1 + 1) (Nat.le_refl _) (fun c hc hne => get_set_ne (Ne.symm (hne trivial)) _) (fun _ => by rw [(hg6 _ _).2 _ (by omega)]; exact hp4) (by decide))
        · have := (hB4 hn).1; simp only [next_new, next_set]; omega
        · have h7 := hB hn; rw [get_set_ne (by omega), (hg6 _ _).2 _ (hB4 hn).1]; exact (hB4 hn).2
      · exact Gr.set (gr4.trans (hg6 _ _)) (by omega) _
end Go.Proofs.YtelepfablohdmaaDoor
/- Contracts: row, filled. -/
namespace Go.Proofs.YtelepfablohdmaaDoor
open Go.Ev
theorem isC_nf {X n : Nat} {l : List Int} {s : Int} (h : isC X n 0 l s) (h0 : X * n ≠ 0) : nf (X * n) l := by
  obtain ⟨h1, h2, _, e, h4, _⟩ := h
  exact ⟨h1, ⟨fun hh => absurd hh h2, fun hh => absurd hh h0⟩, e, h4⟩
set_option maxRecDepth 100000 in
set_option maxHeartbeats 8000000 in
theorem contrib0_w (n after : Nat) (hn2 : n ≤ 59) (ha : after ≤ 20) (h : AHeap) :
    Wc pr (.func 78) [numV 0, .int .i64 (n : Int), .int .i64 (after : Int)] h fun r h' => r = .agg #[.slice none 0 0, .int .i64 0] ∧ Gr h h' := by
  have wm := fun H => multiple_w 0 n (Nat.pow_pos (by decide)) hn2 H
  rw [Nat.zero_mul] at wm
  have wp := fun H => place_w 0 (Nat.pow_pos (by decide)) (after : Int) (by omega) (by omega) H
  rw [num_cells] at *
  have hcx : takeN 146 (ints .u8 (numD 0)) = some (ints .u8 (numD 0)) := num_cut 0
  have hfx := ints_flat .u8 (numD 0)
  refine wc_func Tryd.func78 rfl rfl rfl rfl ?_
  generalize hCX : ints .u8 (numD 0) = CX at *
  repeat' (first
    | ((with_reducible first | refine optP_id ?_ | refine condP_id ?_ | refine resP_id ?_ | refine callT_of ?_); conv => { arg 1; simp (disch := first | assumption | omega) only [push_cast, ↓reduceIte, reduceIte, Nat.reduceEqDiff, Nat.reduceAdd, Nat.reduceSub, Nat.reduceMul, Nat.reduceBEq, Int.reduceNeg, hfx, hcx] }; first | ((with_reducible refine optP_id ?_); refine optP_some ?_) | ((with_reducible refine condP_id ?_); first | refine qcy ?_ | refine qcx ?_ | refine qco ?_ | refine condP_decn (fun hc => ?_) (fun hc => ?_) | refine condP_dec (fun hc => ?_) (fun hc => ?_) | refine qct ?_ | refine qcf ?_ | refine condP_bool (fun hc => ?_) (fun hc => ?_)) | ((with_reducible refine resP_id ?_); refine resP_one ?_) | ((with_reducible refine callT_to ?_); refine callP_plain ?_))
    | refine wk_seq ?_ | refine wk_region ?_ | refine wk_skip ?_ | refine wo_nil ?_ | refine wk_cond ?_ | refine wk_ret ?_ | refine wk_nil ?_ | refine wo_dst rfl (opR_call ?_) | refine wo_nodst (opR_call ?_) | refine wo_dst rfl (opR_pure ?_) | refine wo_nodst (opR_pure ?_)
    | refine give_ret ?_ | refine give_end ?_)
  refine (wm _).mono ?_
  rintro _ h1 ⟨rfl, g1⟩; have n1 := g1.1; have k1 := g1.2; try simp only [next_new, next_set] at n1 k1
  repeat' (first
    | ((with_reducible first | refine optP_id ?_ | refine condP_id ?_ | refine resP_id ?_ | refine callT_of ?_); conv => { arg 1; simp (disch := first | assumption | omega) only [push_cast, ↓reduceIte, reduceIte, Nat.reduceEqDiff, Nat.reduceAdd, Nat.reduceSub, Nat.reduceMul, Nat.reduceBEq, Int.reduceNeg, k1] }; first | ((with_reducible refine optP_id ?_); refine optP_some ?_) | ((with_reducible refine condP_id ?_); first | refine qcy ?_ | refine qcx ?_ | refine qco ?_ | refine condP_decn (fun hc => ?_) (fun hc => ?_) | refine condP_dec (fun hc => ?_) (fun hc => ?_) | refine qct ?_ | refine qcf ?_ | refine condP_bool (fun hc => ?_) (fun hc => ?_)) | ((with_reducible refine resP_id ?_); refine resP_one ?_) | ((with_reducible refine callT_to ?_); refine callP_plain ?_))
    | refine wk_seq ?_ | refine wk_region ?_ | refine wk_skip ?_ | refine wo_nil ?_ | refine wk_cond ?_ | refine wk_ret ?_ | refine wk_nil ?_ | refine wo_dst rfl (opR_call ?_) | refine wo_nodst (opR_call ?_) | refine wo_dst rfl (opR_pure ?_) | refine wo_nodst (opR_pure ?_)
    | refine give_ret ?_ | refine give_end ?_)
  refine (wp _).mono ?_
  rintro _ h2 ⟨hp, g2⟩; have n2 := g2.1; have k2 := g2.2; try simp only [next_new, next_set] at n2 k2
  rcases hp with ⟨h0, rfl⟩ | ⟨h0, _⟩
  · repeat' (first
    | ((with_reducible first | refine optP_id ?_ | refine condP_id ?_ | refine resP_id ?_ | refine callT_of ?_); conv => { arg 1; simp (disch := first | assumption | omega) only [push_cast, ↓reduceIte, reduceIte, Nat.reduceEqDiff, Nat.reduceAdd, Nat.reduceSub, Nat.reduceMul, Nat.reduceBEq, Int.reduceNeg, k1, k2] }; first | ((with_reducible refine optP_id ?_); refine optP_some ?_) | ((with_reducible refine condP_id ?_); first | refine qcy ?_ | refine qcx ?_ | refine qco ?_ | refine condP_decn (fun hc => ?_) (fun hc => ?_) | refine condP_dec (fun hc => ?_) (fun hc => ?_) | refine qct ?_ | refine qcf ?_ | refine condP_bool (fun hc => ?_) (fun hc => ?_)) | ((with_reducible refine resP_id ?_); refine resP_one ?_) | ((with_reducible refine callT_to ?_); refine callP_plain ?_))
    | refine wk_seq ?_ | refine wk_region ?_ | refine wk_skip ?_ | refine wo_nil ?_ | refine wk_cond ?_ | refine wk_ret ?_ | refine wk_nil ?_ | refine wo_dst rfl (opR_call ?_) | refine wo_nodst (opR_call ?_) | refine wo_dst rfl (opR_pure ?_) | refine wo_nodst (opR_pure ?_)
    | refine give_ret ?_ | refine give_end ?_)
    exact ⟨rfl, by (repeat (first | exact Gr.refl _ | assumption | (refine Gr.trans ?_ (by assumption)) | refine Gr.set ?_ (by first | exact Nat.le_refl _ | omega | (simp only [next_new, next_set]; omega)) _ | refine Gr.new ?_ _))⟩
  · exact absurd rfl h0
set_option maxRecDepth 100000 in
set_option maxHeartbeats 8000000 in
theorem row_w (X n : Nat) (hX : X < 60 ^ 15) (hn : 1 ≤ n) (hn2 : n ≤ 59) (h : AHeap) :
    Wc pr (.func 84) [numV X, .int .i64 (n : Int)] h fun r h' => (∃ l a c, r = .slice a l.length c ∧ IIn h' (.slice a l.length c) l ∧ okC (.slice a l.length c) = true ∧ nf (X * n) l) ∧ Gr h h' := by
  have wc : ∀ H, Wc pr (.func 78) [numV X, .int .i64 (n : Int), .int .i64 ((0 : Nat) : Int)] H fun r h' => (∃ (l : List Int) (s : Int) (a : Option Addr) (c : Nat), r = .agg #[.slice a l.length c, .int .i64 s] ∧ IIn h' (.slice a l.length c) l ∧ okC (.slice a l.length c) = true ∧ nf (X * n) l) ∧ Gr H h' := fun H => by
    by_cases hX0 : X = 0
    · subst hX0
      refine (contrib0_w n 0 hn2 (by omega) H).mono ?_
      rintro _ h1 ⟨rfl, g⟩
      exact ⟨⟨[], 0, none, 0, rfl, nilI _, rfl, valid_nil, ⟨fun _ => Nat.zero_mul n, fun _ => rfl⟩, 0, by rw [Nat.zero_mul]; rfl⟩, g⟩
    · refine (contrib_w X n 0 hX0 hX hn hn2 (by omega) H).mono ?_
      rintro _ h1 ⟨⟨l, s, a, c, rfl, hi, ho, hc⟩, g⟩
      exact ⟨⟨l, s, a, c, rfl, hi, ho, isC_nf hc (Nat.mul_ne_zero hX0 (by omega))⟩, g⟩
  rw [num_cells] at *
  have hcx : takeN 146 (ints .u8 (numD X)) = some (ints .u8 (numD X)) := num_cut X
  have hfx := ints_flat .u8 (numD X)
  have z0 : ((0 : Nat) : Int) = 0 := rfl
  rw [z0] at wc
  clear hX
  refine wc_func Tryd.func84 rfl rfl rfl rfl ?_
  generalize hCX : ints .u8 (numD X) = CX at *
  repeat' (first
    | ((with_reducible first | refine optP_id ?_ | refine resP_id ?_ | refine callT_of ?_); conv => { arg 1; simp (disch := first | assumption | omega) only [push_cast, ↓reduceIte, reduceIte, Nat.reduceEqDiff, Nat.reduceAdd, Nat.reduceSub, Nat.reduceMul, Nat.reduceBEq, Int.reduceNeg, hfx, hcx] }; first | ((with_reducible refine optP_id ?_); refine optP_some ?_) | ((with_reducible refine resP_id ?_); refine resP_one ?_) | ((with_reducible refine callT_to ?_); refine callP_plain ?_))
    | refine wk_seq ?_ | refine wk_region ?_ | refine wo_nil ?_ | refine wk_ret ?_ | refine wk_nil ?_ | refine wo_dst rfl (opR_call ?_) | refine wo_nodst (opR_call ?_) | refine wo_dst rfl (opR_pure ?_) | refine wo_nodst (opR_pure ?_)
    | refine give_ret ?_ | refine give_end ?_)
  refine (wc _).mono ?_
  rintro _ h1 ⟨⟨l, s, a, c, rfl, hi, ho, hc⟩, g1⟩; have n1 := g1.1; have k1 := g1.2; try simp only [next_new, next_set] at n1 k1
  repeat' (first
    | ((with_reducible first | refine optP_id ?_ | refine resP_id ?_ | refine callT_of ?_); conv => { arg 1; simp (disch := first | assumption | omega) only [push_cast, ↓reduceIte, reduceIte, Nat.reduceEqDiff, Nat.reduceAdd, Nat.reduceSub, Nat.reduceMul, Nat.reduceBEq, Int.reduceNeg, k1] }; first | ((with_reducible refine optP_id ?_); refine optP_some ?_) | ((with_reducible refine resP_id ?_); refine resP_one ?_) | ((with_reducible refine callT_to ?_); refine callP_plain ?_))
    | refine wk_seq ?_ | refine wk_region ?_ | refine wo_nil ?_ | refine wk_ret ?_ | refine wk_nil ?_ | refine wo_dst rfl (opR_call ?_) | refine wo_nodst (opR_call ?_) | refine wo_dst rfl (opR_pure ?_) | refine wo_nodst (opR_pure ?_)
    | refine give_ret ?_ | refine give_end ?_)
  exact ⟨⟨l, a, c, rfl, hi, ho, hc⟩, by (repeat (first | exact Gr.refl _ | assumption | (refine Gr.trans ?_ (by assumption)) | refine Gr.set ?_ (by first | exact Nat.le_refl _ | omega | (simp only [next_new, next_set]; omega)) _ | refine Gr.new ?_ _))⟩
/-- cells that are slices and the lists that they hold -/
def elsS (H : AHeap) (W : List Value) (L : List (List Int)) : Prop := W.length = L.length ∧ ∀ i (h1 : i < W.length) (h2 : i < L.length), IIn H W[i] L[i] ∧ okC W[i] = true
theorem elsS_nil (H : AHeap) : elsS H [] [] := ⟨rfl, fun i h => absurd h (Nat.not_lt_zero i)⟩
theorem elsS.snoc {H : AHeap} {W : List Value} {L : List (List Int)} {v : Value} {l : List Int} (h : elsS H W L) (hv : IIn H v l) (ho : okC v = true) : elsS H (W ++ [v]) (L ++ [l]) := by
  obtain ⟨h1, h2⟩ := h
  refine ⟨by rw [List.length_append, List.length_append, h1]; rfl, fun i a b => ?_⟩
  by_cases hi : i < W.length
  · rw [List.getElem_append_left hi, List.getElem_append_left (by omega)]
    exact h2 i hi (by omega)
  · have ei : i = W.length := by simp at a; omega
    rw [get_last W v ei a, get_last L l (by omega) b]
    exact ⟨hv, ho⟩
theorem elsS.keep {H H' : AHeap} {W : List Value} {L : List (List Int)} {q e' : Nat} {C : List Value} {rw' : Bool} {p : Prop} (h : elsS H W L) (hn : H.next ≤ H'.next) (hk : ∀ c, c < H.next → (p → c ≠ q) → H'.get c = H.get c) (hq : p → H.get q = some (.cells C e' rw')) (he : e' ≠ 3) : elsS H' W L :=
  ⟨h.1, fun i a b => ⟨(h.2 i a b).1.keep hn hk hq he, (h.2 i a b).2⟩⟩
theorem elsS.gr {H H' : AHeap} {W : List Value} {L : List (List Int)} (h : elsS H W L) (g : Gr H H') : elsS H' W L := ⟨h.1, fun i a b => ⟨SlIn.gr (h.2 i a b).1 g, (h.2 i a b).2⟩⟩
/-- the number of a table's row -/
def rowNo (i : Nat) : Nat := if i < 20 then i + 1 else 10 * (i - 17)
/-- the rows of a table -/
def isRows (X : Nat) (L : List (List Int)) : Prop := ∀ i (h : i < L.length), nf (X * rowNo i) L[i]
theorem isRows.snoc {X : Nat} {L : List (List Int)} {l : List Int} (h : isRows X L) (hl : nf (X * rowNo L.length) l) : isRows X (L ++ [l]) := by
  intro i hi
  by_cases hlt : i < L.length
  · rw [List.getElem_append_left hlt]; exact h i hlt
  · have ei : i = L.length := by simp at hi; omega
    rw [get_last L l ei hi, ei]; exact hl
theorem isRows_nil (X : Nat) : isRows X [] := fun i h => absurd h (Nat.not_lt_zero i)
theorem bs63_1 (a : Option Addr) (n c : Nat) : buildSliceA Tryd.prog 63 1 [(0, .slice a n c)] = some (.cells [.slice a n c] 22 true, fun k => .slice (some ⟨k, 0, none⟩) 1 (EX + 1)) := by kernel_rfl
theorem bs63_3 (a b d : Option Addr) (n c m e p q : Nat) : buildSliceA Tryd.prog 63 3 [(0, .slice a n c), (1, .slice b m e), (2, .slice d p q)] = some (.cells [.slice a n c, .slice b m e, .slice d p q] 22 true, fun k => .slice (some ⟨k, 0, none⟩) 3 (EX + 3)) := by kernel_rfl
attribute [push_cast] bs63_1 bs63_3
theorem ap63 (h : AHeap) (b : Option Addr) (n c : Nat) (x : Value) : appendOp Tryd.prog h 63 63 (.slice b n c) x = appendS h 22 1 24 b n c x := by kernel_rfl
set_option maxRecDepth 100000 in
set_option maxHeartbeats 8000000 in
theorem filled_w (X : Nat) (hX : X < 60 ^ 15) (h : AHeap) :
    Wc pr (.func 83) [.func (.func 84) #[numV X] #[]] h fun r h' => (∃ W L bo, r = .slice (ownB W bo) W.length W.length ∧ h.next ≤ bo ∧ bo < h'.next ∧ h'.get bo = some (.cells (flatE encS W) 22 true) ∧ elsS h' W L ∧ L.length = 23 ∧ isRows X L) ∧ Gr h h' := by
  have wr := fun n hn hn2 H => row_w X n hX hn hn2 H
  have w30 := fun H => row_w X 30 hX (by omega) (by omega) H
  have w40 := fun H => row_w X 40 hX (by omega) (by omega) H
  have w50 := fun H => row_w X 50 hX (by omega) (by omega) H
  rw [num_cells] at *
  rw [show ((30 : Nat) : Int) = 30 from rfl] at w30
  rw [show ((40 : Nat) : Int) = 40 from rfl] at w40
  rw [show ((50 : Nat) : Int) = 50 from rfl] at w50
  clear hX
  refine wc_func Tryd.func83 rfl rfl rfl rfl ?_
  generalize hCX : ints .u8 (numD X) = CX at *
  repeat' (first
    | ((with_reducible first | refine optP_id ?_ | refine condP_id ?_ | refine resP_id ?_ | refine callT_of ?_); conv => { arg 1; simp (disch := first | assumption | omega) only [push_cast, ↓reduceIte, reduceIte, Nat.reduceEqDiff, Nat.reduceAdd, Nat.reduceSub, Nat.reduceMul, Nat.reduceBEq, Int.reduceNeg] }; first | ((with_reducible refine optP_id ?_); refine optP_some ?_) | ((with_reducible refine condP_id ?_); first | refine qcy ?_ | refine qcx ?_ | refine qco ?_ | refine condP_decn (fun hc => ?_) (fun hc => ?_) | refine condP_dec (fun hc => ?_) (fun hc => ?_) | refine qct ?_ | refine qcf ?_ | refine condP_bool (fun hc => ?_) (fun hc => ?_)) | ((with_reducible refine resP_id ?_); refine resP_one ?_) | ((with_reducible refine callT_to ?_); first | refine callP_plain ?_ | refine callP_yield ?_ | (refine callP_func ?_; conv => { arg 3; simp only [push_cast] })))
    | refine wk_seq ?_ | refine wk_region ?_ | refine wk_block ?_ | refine wk_inBlock ?_ | refine wk_skip ?_ | refine wo_nil ?_ | refine wk_exit ?_ | refine exitK_code ?_ | refine exitK_hit ?_ | refine exitK_miss rfl ?_ | refine exitK_inLoop ?_ | refine wk_cond ?_ | refine wk_ret ?_ | refine wk_nil ?_ | refine wo_dst rfl (opR_call ?_) | refine wo_nodst (opR_call ?_) | refine wo_dst rfl (opR_pure ?_) | refine wo_nodst (opR_pure ?_)
    | refine give_ret ?_ | refine give_end ?_)
  refine wk_loop (fun n E H => ∃ (bo : Nat) (W : List Value) (L : List (List Int)), n = 20 - W.length ∧ W.length ≤ 20 ∧ Gr h H ∧ (W ≠ [] → h.next ≤ bo ∧ bo < H.next ∧ H.get bo = some (.cells (flatE encS W) 22 true)) ∧ elsS H W L ∧ isRows X L ∧ E.look 0 top = .func (.func 84) #[.agg CX.toArray] #[] ∧ E.look 3 top = .slice (ownB W bo) W.length W.length ∧ E.look 5 top = .int .i64 (W.length : Int)) 20
    ⟨0, [], [], rfl, by simp, by (repeat (first | exact Gr.refl _ | assumption | (refine Gr.trans ?_ (by assumption)) | refine Gr.set ?_ (by first | exact Nat.le_refl _ | omega | (simp only [next_new, next_set]; omega)) _ | refine Gr.new ?_ _)), fun hn => absurd rfl hn, elsS_nil _, isRows_nil _, by simp (disch := first | assumption | omega) only [push_cast, ↓reduceIte, reduceIte, Nat.reduceEqDiff, Nat.reduceAdd, Nat.reduceSub, Nat.reduceMul, Nat.reduceBEq, Int.reduceNeg], by simp (disch := first | assumption | omega) only [push_cast, ↓reduceIte, reduceIte, Nat.reduceEqDiff, Nat.reduceAdd, Nat.reduceSub, Nat.reduceMul, Nat.reduceBEq, Int.reduceNeg, ownB_nil, List.length_nil], by simp (disch := first | assumption | omega) only [push_cast, ↓reduceIte, reduceIte, Nat.reduceEqDiff, Nat.reduceAdd, Nat.reduceSub, Nat.reduceMul, Nat.reduceBEq, Int.reduceNeg, Int.natCast_zero, List.length_nil]⟩ ?_
  rintro n E H ⟨bo, W, L, rfl, hW, gr, hB, hel, hro, e0, e3, e5⟩ next
  have gn := gr.1
  by_cases hlt : W.length < 20
  · have ilt : (W.length : Int) < 20 := by omega
    have hci : (W.length : Int) + 1 = ((W.length + 1 : Nat) : Int) := by omega
    obtain ⟨m, hm⟩ : ∃ m, m = W.length + 1 := ⟨_, rfl⟩
    rw [← hm] at hci
    repeat' (first
    | ((with_reducible first | refine optP_id ?_ | refine condP_id ?_ | refine resP_id ?_ | refine callT_of ?_); conv => { arg 1; simp (disch := first | assumption | omega) only [push_cast, ↓reduceIte, reduceIte, Nat.reduceEqDiff, Nat.reduceAdd, Nat.reduceSub, Nat.reduceMul, Nat.reduceBEq, Int.reduceNeg, e0, e3, e5, hci] }; first | ((with_reducible refine optP_id ?_); refine optP_some ?_) | ((with_reducible refine condP_id ?_); first | refine qcy ?_ | refine qcx ?_ | refine qco ?_ | refine condP_decn (fun hc => ?_) (fun hc => ?_) | refine condP_dec (fun hc => ?_) (fun hc => ?_) | refine qct ?_ | refine qcf ?_ | refine condP_bool (fun hc => ?_) (fun hc => ?_)) | ((with_reducible refine resP_id ?_); refine resP_one ?_) | ((with_reducible refine callT_to ?_); first | refine callP_plain ?_ | refine callP_yield ?_ | (refine callP_func ?_; conv => { arg 3; simp only [push_cast] })))
    | refine wk_seq ?_ | refine wk_region ?_ | refine wk_block ?_ | refine wk_inBlock ?_ | refine wk_skip ?_ | refine wo_nil ?_ | refine wk_exit ?_ | refine exitK_code ?_ | refine exitK_hit ?_ | refine exitK_miss rfl ?_ | refine exitK_inLoop ?_ | refine wk_cond ?_ | refine wk_ret ?_ | refine wk_nil ?_ | refine wo_dst rfl (opR_call ?_) | refine wo_nodst (opR_call ?_) | refine wo_dst rfl (opR_pure ?_) | refine wo_nodst (opR_pure ?_)
    | refine give_ret ?_ | refine give_end ?_)
    refine (wr m (by omega) (by omega) _).mono ?_
    rintro _ h4 ⟨⟨l, al, cl, rfl, hil, hol, hnf⟩, g4⟩; have n4 := g4.1; have k4 := g4.2; try simp only [next_new, next_set] at n4 k4
    repeat' (first
    | ((with_reducible first | refine optP_id ?_ | refine condP_id ?_ | refine resP_id ?_ | refine callT_of ?_); conv => { arg 1; simp (disch := first | assumption | omega) only [push_cast, ↓reduceIte, reduceIte, Nat.reduceEqDiff, Nat.reduceAdd, Nat.reduceSub, Nat.reduceMul, Nat.reduceBEq, Int.reduceNeg, e0, e3, e5] }; first | ((with_reducible refine optP_id ?_); refine optP_some ?_) | ((with_reducible refine condP_id ?_); first | refine qcy ?_ | refine qcx ?_ | refine qco ?_ | refine condP_decn (fun hc => ?_) (fun hc => ?_) | refine condP_dec (fun hc => ?_) (fun hc => ?_) | refine qct ?_ | refine qcf ?_ | refine condP_bool (fun hc => ?_) (fun hc => ?_)) | ((with_reducible refine resP_id ?_); refine resP_one ?_) | ((with_reducible refine callT_to ?_); first | refine callP_plain ?_ | refine callP_yield ?_ | (refine callP_func ?_; conv => { arg 3; simp only [push_cast] })))
    | refine wk_seq ?_ | refine wk_region ?_ | refine wk_block ?_ | refine wk_inBlock ?_ | refine wk_skip ?_ | refine wo_nil ?_ | refine wk_exit ?_ | refine exitK_code ?_ | refine exitK_hit ?_ | refine exitK_miss rfl ?_ | refine exitK_inLoop ?_ | refine wk_cond ?_ | refine wk_ret ?_ | refine wk_nil ?_ | refine wo_dst rfl (opR_call ?_) | refine wo_nodst (opR_call ?_) | refine wo_dst rfl (opR_pure ?_) | refine wo_nodst (opR_pure ?_)
    | refine give_ret ?_ | refine give_end ?_)
    conv => { arg 1; simp (disch := first | assumption | omega) only [push_cast, ↓reduceIte, reduceIte, Nat.reduceEqDiff, Nat.reduceAdd, Nat.reduceSub, Nat.reduceMul, Nat.reduceBEq, Int.reduceNeg, ap63] }
    refine optP_one1 (x := .slice al l.length cl) (e' := 22) (rw' := true) encS_len rfl (by omega) (by omega) (fun hn => by obtain ⟨q0, q1, q2⟩ := hB hn; simp (disch := first | assumption | omega) only [push_cast, ↓reduceIte, reduceIte, Nat.reduceEqDiff, Nat.reduceAdd, Nat.reduceSub, Nat.reduceMul, Nat.reduceBEq, Int.reduceNeg, k4]; exact q2) (by unfold encS; simp (disch := first | assumption | omega) only [push_cast, ↓reduceIte, reduceIte, Nat.reduceEqDiff, Nat.reduceAdd, Nat.reduceSub, Nat.reduceMul, Nat.reduceBEq, Int.reduceNeg]) ?_
    intro H5 n5 new5 keep5
    simp only [next_new] at n5 new5 keep5
    have keep : ∀ c, c < h4.next → (W ≠ [] → c ≠ bo) → H5.get c = h4.get c := fun c hc hne => by rw [keep5 c (by omega) hne]; simp (disch := first | assumption | omega) only [push_cast, ↓reduceIte, reduceIte, Nat.reduceEqDiff, Nat.reduceAdd, Nat.reduceSub, Nat.reduceMul, Nat.reduceBEq, Int.reduceNeg]
    have hB4 : W ≠ [] → h4.get bo = some (.cells (flatE encS W) 22 true) := fun hn => by rw [k4 _ (hB hn).2.1]; exact (hB hn).2.2
    have hel5 := (hel.keep (H' := H5) (by omega) (fun c hc hne => by rw [keep c (by omega) hne, k4 _ hc]) (fun hn => (hB hn).2.2) (by decide)).snoc (hil.keep (H' := H5) (by omega) keep hB4 (by decide)) hol
    have hg5 : Gr h H5 := ⟨by omega, fun c hc => by rw [keep c (by omega) (fun hn => by have := (hB hn).1; omega), k4 _ (by omega)]; exact gr.2 c hc⟩
    have hro5 := hro.snoc (l := l) (by rw [← hel.1, rowNo, if_pos hlt, ← hm]; exact hnf)
    repeat' (first
    | ((with_reducible first | refine optP_id ?_ | refine condP_id ?_ | refine resP_id ?_ | refine callT_of ?_); conv => { arg 1; simp (disch := first | assumption | omega) only [push_cast, ↓reduceIte, reduceIte, Nat.reduceEqDiff, Nat.reduceAdd, Nat.reduceSub, Nat.reduceMul, Nat.reduceBEq, Int.reduceNeg, e0, e3, e5] }; first | ((with_reducible refine optP_id ?_); refine optP_some ?_) | ((with_reducible refine condP_id ?_); first | refine qcy ?_ | refine qcx ?_ | refine qco ?_ | refine condP_decn (fun hc => ?_) (fun hc => ?_) | refine condP_dec (fun hc => ?_) (fun hc => ?_) | refine qct ?_ | refine qcf ?_ | refine condP_bool (fun hc => ?_) (fun hc => ?_)) | ((with_reducible refine resP_id ?_); refine resP_one ?_) | ((with_reducible refine callT_to ?_); first | refine callP_plain ?_ | refine callP_yield ?_ | (refine callP_func ?_; conv => { arg 3; simp only [push_cast] })))
    | refine wk_seq ?_ | refine wk_region ?_ | refine wk_block ?_ | refine wk_inBlock ?_ | refine wk_skip ?_ | refine wo_nil ?_ | refine wk_exit ?_ | refine exitK_code ?_ | refine exitK_hit ?_ | refine exitK_miss rfl ?_ | refine exitK_inLoop ?_ | refine wk_cond ?_ | refine wk_ret ?_ | refine wk_nil ?_ | refine wo_dst rfl (opR_call ?_) | refine wo_nodst (opR_call ?_) | refine wo_dst rfl (opR_pure ?_) | refine wo_nodst (opR_pure ?_)
    | refine give_ret ?_ | refine give_end ?_)
    exact next (20 - (W ++ [Value.slice al l.length cl]).length) _ _ (by rw [List.length_append]; simp; omega) ⟨h4.next + 1, W ++ [.slice al l.length cl], L ++ [l], rfl, by rw [List.length_append]; simp; omega, hg5, fun _ => ⟨by omega, by omega, new5⟩, hel5, hro5, by simp (disch := first | assumption | omega) only [push_cast, ↓reduceIte, reduceIte, Nat.reduceEqDiff, Nat.reduceAdd, Nat.reduceSub, Nat.reduceMul, Nat.reduceBEq, Int.reduceNeg, e0], by simp (disch := first | assumption | omega) only [push_cast, ↓reduceIte, reduceIte, Nat.reduceEqDiff, Nat.reduceAdd, Nat.reduceSub, Nat.reduceMul, Nat.reduceBEq, Int.reduceNeg], by rw [List.length_append]; simp (disch := first | assumption | omega) only [push_cast, ↓reduceIte, reduceIte, Nat.reduceEqDiff, Nat.reduceAdd, Nat.reduceSub, Nat.reduceMul, Nat.reduceBEq, Int.reduceNeg, List.length_singleton, Int.natCast_add, Int.natCast_one]⟩
  · have ilt : ¬ (W.length : Int) < 20 := by omega
    have hW20 : W.length = 20 := by omega
    have hWn : W ≠ [] := fun hh => by rw [hh] at hW20; cases hW20
    obtain ⟨hB0, hB1, hB2⟩ := hB hWn
    clear hB
    repeat' (first
    | ((with_reducible first | refine optP_id ?_ | refine condP_id ?_ | refine resP_id ?_ | refine callT_of ?_); conv => { arg 1; simp (disch := first | assumption | omega) only [push_cast, ↓reduceIte, reduceIte, Nat.reduceEqDiff, Nat.reduceAdd, Nat.reduceSub, Nat.reduceMul, Nat.reduceBEq, Int.reduceNeg, e0, e3, e5] }; first | ((with_reducible refine optP_id ?_); refine optP_some ?_) | ((with_reducible refine condP_id ?_); first | refine qcy ?_ | refine qcx ?_ | refine qco ?_ | refine condP_decn (fun hc => ?_) (fun hc => ?_) | refine condP_dec (fun hc => ?_) (fun hc => ?_) | refine qct ?_ | refine qcf ?_ | refine condP_bool (fun hc => ?_) (fun hc => ?_)) | ((with_reducible refine resP_id ?_); refine resP_one ?_) | ((with_reducible refine callT_to ?_); first | refine callP_plain ?_ | refine callP_yield ?_ | (refine callP_func ?_; conv => { arg 3; simp only [push_cast] })))
    | refine wk_seq ?_ | refine wk_region ?_ | refine wk_block ?_ | refine wk_inBlock ?_ | refine wk_skip ?_ | refine wo_nil ?_ | refine wk_exit ?_ | refine exitK_code ?_ | refine exitK_hit ?_ | refine exitK_miss rfl ?_ | refine exitK_inLoop ?_ | refine wk_cond ?_ | refine wk_ret ?_ | refine wk_nil ?_ | refine wo_dst rfl (opR_call ?_) | refine wo_nodst (opR_call ?_) | refine wo_dst rfl (opR_pure ?_) | refine wo_nodst (opR_pure ?_)
    | refine give_ret ?_ | refine give_end ?_)
    refine (w30 _).mono ?_
    rintro _ h1 ⟨⟨l1, a1, c1, rfl, hi1, ho1, hn1⟩, g1⟩; have n1 := g1.1; have k1 := g1.2; try simp only [next_new, next_set] at n1 k1
    repeat' (first
    | ((with_reducible first | refine optP_id ?_ | refine condP_id ?_ | refine resP_id ?_ | refine callT_of ?_); conv => { arg 1; simp (disch := first | assumption | omega) only [push_cast, ↓reduceIte, reduceIte, Nat.reduceEqDiff, Nat.reduceAdd, Nat.reduceSub, Nat.reduceMul, Nat.reduceBEq, Int.reduceNeg, e0, e3, e5] }; first | ((with_reducible refine optP_id ?_); refine optP_some ?_) | ((with_reducible refine condP_id ?_); first | refine qcy ?_ | refine qcx ?_ | refine qco ?_ | refine condP_decn (fun hc => ?_) (fun hc => ?_) | refine condP_dec (fun hc => ?_) (fun hc => ?_) | refine qct ?_ | refine qcf ?_ | refine condP_bool (fun hc => ?_) (fun hc => ?_)) | ((with_reducible refine resP_id ?_); refine resP_one ?_) | ((with_reducible refine callT_to ?_); first | refine callP_plain ?_ | refine callP_yield ?_ | (refine callP_func ?_; conv => { arg 3; simp only [push_cast] })))
    | refine wk_seq ?_ | refine wk_region ?_ | refine wk_block ?_ | refine wk_inBlock ?_ | refine wk_skip ?_ | refine wo_nil ?_ | refine wk_exit ?_ | refine exitK_code ?_ | refine exitK_hit ?_ | refine exitK_miss rfl ?_ | refine exitK_inLoop ?_ | refine wk_cond ?_ | refine wk_ret ?_ | refine wk_nil ?_ | refine wo_dst rfl (opR_call ?_) | refine wo_nodst (opR_call ?_) | refine wo_dst rfl (opR_pure ?_) | refine wo_nodst (opR_pure ?_)
    | refine give_ret ?_ | refine give_end ?_)
    refine (w40 _).mono ?_
    rintro _ h2 ⟨⟨l2, a2, c2, rfl, hi2, ho2, hn2⟩, g2⟩; have n2 := g2.1; have k2 := g2.2; try simp only [next_new, next_set] at n2 k2
    repeat' (first
    | ((with_reducible first | refine optP_id ?_ | refine condP_id ?_ | refine resP_id ?_ | refine callT_of ?_); conv => { arg 1; simp (disch := first | assumption | omega) only [push_cast, ↓reduceIte, reduceIte, Nat.reduceEqDiff, Nat.reduceAdd, Nat.reduceSub, Nat.reduceMul, Nat.reduceBEq, Int.reduceNeg, e0, e3, e5] }; first | ((with_reducible refine optP_id ?_); refine optP_some ?_) | ((with_reducible refine condP_id ?_); first | refine qcy ?_ | refine qcx ?_ | refine qco ?_ | refine condP_decn (fun hc => ?_) (fun hc => ?_) | refine condP_dec (fun hc => ?_) (fun hc => ?_) | refine qct ?_ | refine qcf ?_ | refine condP_bool (fun hc => ?_) (fun hc => ?_)) | ((with_reducible refine resP_id ?_); refine resP_one ?_) | ((with_reducible refine callT_to ?_); first | refine callP_plain ?_ | refine callP_yield ?_ | (refine callP_func ?_; conv => { arg 3; simp only [push_cast] })))
    | refine wk_seq ?_ | refine wk_region ?_ | refine wk_block ?_ | refine wk_inBlock ?_ | refine wk_skip ?_ | refine wo_nil ?_ | refine wk_exit ?_ | refine exitK_code ?_ | refine exitK_hit ?_ | refine exitK_miss rfl ?_ | refine exitK_inLoop ?_ | refine wk_cond ?_ | refine wk_ret ?_ | refine wk_nil ?_ | refine wo_dst rfl (opR_call ?_) | refine wo_nodst (opR_call ?_) | refine wo_dst rfl (opR_pure ?_) | refine wo_nodst (opR_pure ?_)
    | refine give_ret ?_ | refine give_end ?_)
    refine (w50 _).mono ?_
    rintro _ h3 ⟨⟨l3, a3, c3, rfl, hi3, ho3, hn3⟩, g3⟩; have n3 := g3.1; have k3 := g3.2; try simp only [next_new, next_set] at n3 k3
    repeat' (first
    | ((with_reducible first | refine optP_id ?_ | refine condP_id ?_ | refine resP_id ?_ | refine callT_of ?_); conv => { arg 1; simp (disch := first | assumption | omega) only [push_cast, ↓reduceIte, reduceIte, Nat.reduceEqDiff, Nat.reduceAdd, Nat.reduceSub, Nat.reduceMul, Nat.reduceBEq, Int.reduceNeg, e0, e3, e5] }; first | ((with_reducible refine optP_id ?_); refine optP_some ?_) | ((with_reducible refine condP_id ?_); first | refine qcy ?_ | refine qcx ?_ | refine qco ?_ | refine condP_decn (fun hc => ?_) (fun hc => ?_) | refine condP_dec (fun hc => ?_) (fun hc => ?_) | refine qct ?_ | refine qcf ?_ | refine condP_bool (fun hc => ?_) (fun hc => ?_)) | ((with_reducible refine resP_id ?_); refine resP_one ?_) | ((with_reducible refine callT_to ?_); first | refine callP_plain ?_ | refine callP_yield ?_ | (refine callP_func ?_; conv => { arg 3; simp only [push_cast] })))
    | refine wk_seq ?_ | refine wk_region ?_ | refine wk_block ?_ | refine wk_inBlock ?_ | refine wk_skip ?_ | refine wo_nil ?_ | refine wk_exit ?_ | refine exitK_code ?_ | refine exitK_hit ?_ | refine exitK_miss rfl ?_ | refine exitK_inLoop ?_ | refine wk_cond ?_ | refine wk_ret ?_ | refine wk_nil ?_ | refine wo_dst rfl (opR_call ?_) | refine wo_nodst (opR_call ?_) | refine wo_dst rfl (opR_pure ?_) | refine wo_nodst (opR_pure ?_)
    | refine give_ret ?_ | refine give_end ?_)
    conv => { arg 1; simp (disch := first | assumption | omega) only [push_cast, ↓reduceIte, reduceIte, Nat.reduceEqDiff, Nat.reduceAdd, Nat.reduceSub, Nat.reduceMul, Nat.reduceBEq, Int.reduceNeg, ap63] }
    refine optP_all1 (enc := encS) (m := [.slice a1 l1.length c1, .slice a2 l2.length c2, .slice a3 l3.length c3]) (e' := 22) (rw' := true) encS_len rfl (by omega) (by simp) (by simp) (by omega) (fun hn => by simp (disch := first | assumption | omega) only [push_cast, ↓reduceIte, reduceIte, Nat.reduceEqDiff, Nat.reduceAdd, Nat.reduceSub, Nat.reduceMul, Nat.reduceBEq, Int.reduceNeg, k3, k2, k1]; exact hB2) (by simp (disch := first | assumption | omega) only [push_cast, ↓reduceIte, reduceIte, Nat.reduceEqDiff, Nat.reduceAdd, Nat.reduceSub, Nat.reduceMul, Nat.reduceBEq, Int.reduceNeg]; rfl) ?_
    intro H5 n5 new5 keep5
    simp only [next_new] at n5 new5 keep5
    have keep : ∀ c, c < h3.next → (W ≠ [] → c ≠ bo) → H5.get c = h3.get c := fun c hc hne => by rw [keep5 c (by omega) hne]; simp (disch := first | assumption | omega) only [push_cast, ↓reduceIte, reduceIte, Nat.reduceEqDiff, Nat.reduceAdd, Nat.reduceSub, Nat.reduceMul, Nat.reduceBEq, Int.reduceNeg]
    have hel5 := (((hel.keep (H' := H5) (by omega) (fun c hc hne => by rw [keep c (by omega) hne, k3 _ (by omega), k2 _ (by omega), k1 _ hc]) (fun hn => hB2) (by decide)).snoc (hi1.keep (H' := H5) (by omega) (fun c hc hne => by rw [keep c (by omega) hne, k3 _ (by omega), k2 _ hc]) (fun hn => by rw [k1 _ hB1]; exact hB2) (by decide)) ho1).snoc (hi2.keep (H' := H5) (by omega) (fun c hc hne => by rw [keep c (by omega) hne, k3 _ hc]) (fun hn => by rw [k2 _ (by omega), k1 _ hB1]; exact hB2) (by decide)) ho2).snoc (hi3.keep (H' := H5) (by omega) keep (fun hn => by rw [k3 _ (by omega), k2 _ (by omega), k1 _ hB1]; exact hB2) (by decide)) ho3
    have hg5 : Gr h H5 := ⟨by omega, fun c hc => by rw [keep c (by omega) (fun hn => by omega), k3 _ (by omega), k2 _ (by omega), k1 _ (by omega)]; exact gr.2 c hc⟩
    have hLl : L.length = 20 := by rw [← hel.1]; exact hW20
    have hro5 := ((hro.snoc (l := l1) (by rw [hLl]; exact hn1)).snoc (l := l2) (by rw [List.length_append, hLl]; exact hn2)).snoc (l := l3) (by rw [List.length_append, List.length_append, hLl]; exact hn3)
    have e3eq : ((W ++ [Value.slice a1 l1.length c1]) ++ [Value.slice a2 l2.length c2]) ++ [Value.slice a3 l3.length c3] = W ++ [.slice a1 l1.length c1, .slice a2 l2.length c2, .slice a3 l3.length c3] := by simp
    rw [e3eq] at hel5
    generalize W ++ [Value.slice a1 l1.length c1, .slice a2 l2.length c2, .slice a3 l3.length c3] = W5 at *
    repeat' (first
    | ((with_reducible first | refine optP_id ?_ | refine condP_id ?_ | refine resP_id ?_ | refine callT_of ?_); conv => { arg 1; simp (disch := first | assumption | omega) only [push_cast, ↓reduceIte, reduceIte, Nat.reduceEqDiff, Nat.reduceAdd, Nat.reduceSub, Nat.reduceMul, Nat.reduceBEq, Int.reduceNeg, e0, e3, e5] }; first | ((with_reducible refine optP_id ?_); refine optP_some ?_) | ((with_reducible refine condP_id ?_); first | refine qcy ?_ | refine qcx ?_ | refine qco ?_ | refine condP_decn (fun hc => ?_) (fun hc => ?_) | refine condP_dec (fun hc => ?_) (fun hc => ?_) | refine qct ?_ | refine qcf ?_ | refine condP_bool (fun hc => ?_) (fun hc => ?_)) | ((with_reducible refine resP_id ?_); refine resP_one ?_) | ((with_reducible refine callT_to ?_); first | refine callP_plain ?_ | refine callP_yield ?_ | (refine callP_func ?_; conv => { arg 3; simp only [push_cast] })))
    | refine wk_seq ?_ | refine wk_region ?_ | refine wk_block ?_ | refine wk_inBlock ?_ | refine wk_skip ?_ | refine wo_nil ?_ | refine wk_exit ?_ | refine exitK_code ?_ | refine exitK_hit ?_ | refine exitK_miss rfl ?_ | refine exitK_inLoop ?_ | refine wk_cond ?_ | refine wk_ret ?_ | refine wk_nil ?_ | refine wo_dst rfl (opR_call ?_) | refine wo_nodst (opR_call ?_) | refine wo_dst rfl (opR_pure ?_) | refine wo_nodst (opR_pure ?_)
    | refine give_ret ?_ | refine give_end ?_)
    exact ⟨⟨W5, _, h3.next + 1, rfl, by omega, by omega, new5, hel5, by simp [hLl], hro5⟩, hg5⟩
end Go.Proofs.YtelepfablohdmaaDoor
namespace Go.Proofs.YtelepfablohdmaaDoor
open Go.Ev
set_option maxRecDepth 100000 in
set_option maxHeartbeats 8000000 in
theorem tb1_w (l : List Int) (hl : valid l) (ll : l.length ≤ 15) (pl pp : Nat) (vl : Value) (h : AHeap) (hgl : h.get pl = some (.cells [vl] 22 true)) (hgp : h.get pp = some (.cells [.slice none 0 0] 63 true)) (hpl : pl < h.next) (hpp : pp < h.next) (hil : IIn h vl l) :
    Wc pr (.func 82) [.pointer (some ⟨pl, 0, none⟩), .pointer (some ⟨pp, 0, none⟩)] h fun _ h' => ∃ W L bo, h'.get pp = some (.cells [.slice (ownB W bo) W.length W.length] 63 true) ∧ h.next ≤ bo ∧ bo < h'.next ∧ h'.get bo = some (.cells (flatE encS W) 22 true) ∧ elsS h' W L ∧ L.length = 23 ∧ isRows (valN l) L ∧ h.next ≤ h'.next ∧ (∀ c, c < h.next → c ≠ pp → h'.get c = h.get c) := by
  have hX : valN l < 60 ^ 15 := Nat.lt_of_lt_of_le (valN_lt hl.1) (Nat.pow_le_pow_right (by decide) ll)
  have wn := fun H hi => numfrom_w l hl.1 0 (by omega) vl H hi
  rw [Nat.pow_zero, Nat.mul_one] at wn
  have wc := fun H => filled_w (valN l) hX H
  rw [num_cells] at wc wn
  clear hX
  obtain ⟨al, cl, rfl, _, _⟩ := id hil
  refine wc_func Tryd.func82 rfl rfl rfl rfl ?_
  generalize hCX : ints .u8 (numD (valN l)) = CX at *
  repeat' (first
    | ((with_reducible first | refine optP_id ?_ | refine resP_id ?_ | refine callT_of ?_); conv => { arg 1; simp (disch := first | assumption | omega) only [push_cast, ↓reduceIte, reduceIte, Nat.reduceEqDiff, Nat.reduceAdd, Nat.reduceSub, Nat.reduceMul, Nat.reduceBEq, Int.reduceNeg, hgl] }; first | ((with_reducible refine optP_id ?_); refine optP_some ?_) | ((with_reducible refine resP_id ?_); refine resP_zero ?_) | ((with_reducible refine callT_to ?_); refine callP_plain ?_))
    | refine wk_seq ?_ | refine wk_region ?_ | refine wo_nil ?_ | refine wk_nil ?_ | refine wo_dst rfl (opR_call ?_) | refine wo_nodst (opR_call ?_) | refine wo_dst rfl (opR_pure ?_) | refine wo_nodst (opR_pure ?_)
    | refine give_ret ?_ | refine give_end ?_)
  refine (wn _ hil).mono ?_
  rintro _ h1 ⟨rfl, g1⟩; have n1 := g1.1; have k1 := g1.2; try simp only [next_new, next_set] at n1 k1
  repeat' (first
    | ((with_reducible first | refine optP_id ?_ | refine resP_id ?_ | refine callT_of ?_); conv => { arg 1; simp (disch := first | assumption | omega) only [push_cast, ↓reduceIte, reduceIte, Nat.reduceEqDiff, Nat.reduceAdd, Nat.reduceSub, Nat.reduceMul, Nat.reduceBEq, Int.reduceNeg, k1, hgl] }; first | ((with_reducible refine optP_id ?_); refine optP_some ?_) | ((with_reducible refine resP_id ?_); refine resP_zero ?_) | ((with_reducible refine callT_to ?_); refine callP_plain ?_))
    | refine wk_seq ?_ | refine wk_region ?_ | refine wo_nil ?_ | refine wk_nil ?_ | refine wo_dst rfl (opR_call ?_) | refine wo_nodst (opR_call ?_) | refine wo_dst rfl (opR_pure ?_) | refine wo_nodst (opR_pure ?_)
    | refine give_ret ?_ | refine give_end ?_)
  refine (wc _).mono ?_
  rintro _ h2 ⟨⟨W, L, bo, rfl, hB0, hB1, hB2, hel, hLl, hro⟩, g2⟩; have n2 := g2.1; have k2 := g2.2; try simp only [next_new, next_set] at n2 k2
  have hgp2 : h2.get pp = some (.cells [.slice none 0 0] 63 true) := by rw [k2 _ (by omega), k1 _ hpp]; exact hgp
  repeat' (first
    | ((with_reducible first | refine optP_id ?_ | refine resP_id ?_ | refine callT_of ?_); conv => { arg 1; simp (disch := first | assumption | omega) only [push_cast, ↓reduceIte, reduceIte, Nat.reduceEqDiff, Nat.reduceAdd, Nat.reduceSub, Nat.reduceMul, Nat.reduceBEq, Int.reduceNeg, k1, k2, hgl, hgp] }; first | ((with_reducible refine optP_id ?_); refine optP_some ?_) | ((with_reducible refine resP_id ?_); refine resP_zero ?_) | ((with_reducible refine callT_to ?_); refine callP_plain ?_))
    | refine wk_seq ?_ | refine wk_region ?_ | refine wo_nil ?_ | refine wk_nil ?_ | refine wo_dst rfl (opR_call ?_) | refine wo_nodst (opR_call ?_) | refine wo_dst rfl (opR_pure ?_) | refine wo_nodst (opR_pure ?_)
    | refine give_ret ?_ | refine give_end ?_)
  exact ⟨W, L, bo, by rw [get_set_self], by omega, hB1, by rw [get_set_ne (by omega)]; exact hB2, hel.keep (H' := h2.set pp _) (p := True) (q := pp) (Nat.le_refl _) (fun c hc hne => get_set_ne (Ne.symm (hne trivial)) _) (fun _ => hgp2) (by decide), hLl, hro, by simp only [next_set]; omega, fun c hc hne => by rw [get_set_ne (Ne.symm hne), k2 _ (by omega), k1 _ hc]⟩
set_option maxRecDepth 100000 in
set_option maxHeartbeats 8000000 in
theorem table_w (l : List Int) (hl : valid l) (ll : l.length ≤ 15) (vl : Value) (h : AHeap) (hil : IIn h vl l) :
    Wc pr (.func 37) [vl] h fun r h' => (∃ (W : List Value) (L : List (List Int)) (bo c : Nat), r = .tuple #[.slice (some ⟨bo, 0, none⟩) 23 c, .int .i64 0] ∧ bo < h'.next ∧ h'.get bo = some (.cells (flatE encS W) 22 true) ∧ elsS h' W L ∧ L.length = 23 ∧ isRows (valN l) L) ∧ Gr h h' := by
  have hil0 := hil
  obtain ⟨al, cl, rfl, _, _⟩ := hil
  refine wc_func Tryd.func37 rfl rfl rfl rfl ?_
  repeat' (first
    | ((with_reducible first | refine optP_id ?_ | refine condP_id ?_ | refine resP_id ?_ | refine callT_of ?_); conv => { arg 1; simp (disch := first | assumption | omega) only [push_cast, ↓reduceIte, reduceIte, Nat.reduceEqDiff, Nat.reduceAdd, Nat.reduceSub, Nat.reduceMul, Nat.reduceBEq, Int.reduceNeg] }; first | ((with_reducible refine optP_id ?_); refine optP_some ?_) | ((with_reducible refine condP_id ?_); first | refine qcy ?_ | refine qcx ?_ | refine qco ?_ | refine condP_decn (fun hc => ?_) (fun hc => ?_) | refine condP_dec (fun hc => ?_) (fun hc => ?_) | refine qct ?_ | refine qcf ?_ | refine condP_bool (fun hc => ?_) (fun hc => ?_)) | ((with_reducible refine resP_id ?_); refine resP_two ?_) | ((with_reducible refine callT_to ?_); refine callP_plain ?_))
    | refine wk_seq ?_ | refine wk_region ?_ | refine wk_skip ?_ | refine wk_draw (by kernel_rfl) (by decide +kernel) ?_ | refine wk_drawn [(2, 5)] (by kernel_rfl) (by decide +kernel) ?_ | refine wo_nil ?_ | refine wk_cond ?_ | refine wk_ret ?_ | refine wk_nil ?_ | refine wo_dst rfl (opR_call ?_) | refine wo_nodst (opR_call ?_) | refine wo_dst rfl (opR_pure ?_) | refine wo_nodst (opR_pure ?_)
    | refine wd_dst rfl (opR_call ?_) | refine wd_nodst (opR_call ?_) | refine wd_dst rfl (opR_pick ?_) | refine wd_guard rfl rfl ?_ | refine wd_guardn rfl ?_ | refine wd_dst rfl (opR_pure ?_) | refine wd_nodst (opR_pure ?_) | refine opR_call ?_ | refine opR_pick ?_ | refine opR_pure ?_ | (refine wd_nil ?_; refine doneD rfl rfl ?_ ?_) | refine again_nil | refine again_cons ?_ ?_ | refine again_plain rfl rfl rfl ?_ | refine again_guard rfl rfl rfl rfl ?_ | exact same_undef | exact same_of rfl rfl | refine give_ret ?_ | refine give_end ?_)
  refine (check_w l _ _ (SlIn.gr hil0 (by (repeat (first | exact Gr.refl _ | assumption | (refine Gr.trans ?_ (by assumption)) | refine Gr.set ?_ (by first | exact Nat.le_refl _ | omega | (simp only [next_new, next_set]; omega)) _ | refine Gr.new ?_ _)))) (by omega)).mono ?_
  rintro _ _ ⟨rfl, rfl⟩
  rw [valid_check hl (by omega)]
  repeat' (first
    | ((with_reducible first | refine optP_id ?_ | refine condP_id ?_ | refine resP_id ?_ | refine callT_of ?_); conv => { arg 1; simp (disch := first | assumption | omega) only [push_cast, ↓reduceIte, reduceIte, Nat.reduceEqDiff, Nat.reduceAdd, Nat.reduceSub, Nat.reduceMul, Nat.reduceBEq, Int.reduceNeg] }; first | ((with_reducible refine optP_id ?_); refine optP_some ?_) | ((with_reducible refine condP_id ?_); first | refine qcy ?_ | refine qcx ?_ | refine qco ?_ | refine condP_decn (fun hc => ?_) (fun hc => ?_) | refine condP_dec (fun hc => ?_) (fun hc => ?_) | refine qct ?_ | refine qcf ?_ | refine condP_bool (fun hc => ?_) (fun hc => ?_)) | ((with_reducible refine resP_id ?_); refine resP_two ?_) | ((with_reducible refine callT_to ?_); refine callP_plain ?_))
    | refine wk_seq ?_ | refine wk_region ?_ | refine wk_skip ?_ | refine wk_draw (by kernel_rfl) (by decide +kernel) ?_ | refine wk_drawn [(2, 5)] (by kernel_rfl) (by decide +kernel) ?_ | refine wo_nil ?_ | refine wk_cond ?_ | refine wk_ret ?_ | refine wk_nil ?_ | refine wo_dst rfl (opR_call ?_) | refine wo_nodst (opR_call ?_) | refine wo_dst rfl (opR_pure ?_) | refine wo_nodst (opR_pure ?_)
    | refine wd_dst rfl (opR_call ?_) | refine wd_nodst (opR_call ?_) | refine wd_dst rfl (opR_pick ?_) | refine wd_guard rfl rfl ?_ | refine wd_guardn rfl ?_ | refine wd_dst rfl (opR_pure ?_) | refine wd_nodst (opR_pure ?_) | refine opR_call ?_ | refine opR_pick ?_ | refine opR_pure ?_ | (refine wd_nil ?_; refine doneD rfl rfl ?_ ?_) | refine again_nil | refine again_cons ?_ ?_ | refine again_plain rfl rfl rfl ?_ | refine again_guard rfl rfl rfl rfl ?_ | exact same_undef | exact same_of rfl rfl | refine give_ret ?_ | refine give_end ?_)
  refine att_w ?_
  refine (tb1_w l hl ll h.next (h.next + 1) _ _ (by simp (disch := first | assumption | omega) only [push_cast, ↓reduceIte, reduceIte, Nat.reduceEqDiff, Nat.reduceAdd, Nat.reduceSub, Nat.reduceMul, Nat.reduceBEq, Int.reduceNeg]) (by simp (disch := first | assumption | omega) only [push_cast, ↓reduceIte, reduceIte, Nat.reduceEqDiff, Nat.reduceAdd, Nat.reduceSub, Nat.reduceMul, Nat.reduceBEq, Int.reduceNeg]) (by simp only [next_new]; omega) (by simp only [next_new]; omega) (SlIn.gr hil0 (by (repeat (first | exact Gr.refl _ | assumption | (refine Gr.trans ?_ (by assumption)) | refine Gr.set ?_ (by first | exact Nat.le_refl _ | omega | (simp only [next_new, next_set]; omega)) _ | refine Gr.new ?_ _))))).mono ?_
  rintro _ h3 ⟨W, L, bo, hp3, hB0, hB1, hB2, hel, hLl, hro, n3, k3⟩
  simp only [next_new] at n3 k3 hB0 ⊢
  refine ⟨by rw [k3 _ (by omega) (by omega)]; simp (disch := first | assumption | omega) only [push_cast, ↓reduceIte, reduceIte, Nat.reduceEqDiff, Nat.reduceAdd, Nat.reduceSub, Nat.reduceMul, Nat.reduceBEq, Int.reduceNeg], by omega, fun h4 g4 => ?_⟩
  have n4 := g4.1
  have k4 := g4.2
  have hp4 : h4.get (h.next + 1) = some (.cells [.slice (ownB W bo) W.length W.length] 63 true) := by rw [k4 _ (by omega)]; exact hp3
  have hB4 : h4.get bo = some (.cells (flatE encS W) 22 true) := by rw [k4 _ hB1]; exact hB2
  have hel4 := hel.gr g4
  have gr4 : Gr h h4 := ⟨by omega, fun c hc => by rw [k4 _ (by omega), k3 _ (by omega) (by omega)]; simp (disch := first | assumption | omega) only [push_cast, ↓reduceIte, reduceIte, Nat.reduceEqDiff, Nat.reduceAdd, Nat.reduceSub, Nat.reduceMul, Nat.reduceBEq, Int.reduceNeg]⟩
  have hW23 : W.length = 23 := by rw [hel.1]; exact hLl
  have hWn : W ≠ [] := fun hh => by rw [hh] at hW23; cases hW23
  rw [ownB_ne hWn, hW23] at hp4
  have smw : same (.slice (some ⟨bo, 0, none⟩) 23 23) (.slice (some ⟨bo, 0, none⟩) 23 23) = true := same_of rfl rfl
  repeat' (first
    | ((with_reducible first | refine optP_id ?_ | refine condP_id ?_ | refine resP_id ?_ | refine callT_of ?_); conv => { arg 1; simp (disch := first | assumption | omega) only [push_cast, ↓reduceIte, reduceIte, Nat.reduceEqDiff, Nat.reduceAdd, Nat.reduceSub, Nat.reduceMul, Nat.reduceBEq, Int.reduceNeg, hp4] }; first | ((with_reducible refine optP_id ?_); refine optP_some ?_) | ((with_reducible refine condP_id ?_); first | refine qcy ?_ | refine qcx ?_ | refine qco ?_ | refine condP_decn (fun hc => ?_) (fun hc => ?_) | refine condP_dec (fun hc => ?_) (fun hc => ?_) | refine qct ?_ | refine qcf ?_ | refine condP_bool (fun hc => ?_) (fun hc => ?_)) | ((with_reducible refine resP_id ?_); refine resP_two ?_) | ((with_reducible refine callT_to ?_); refine callP_plain ?_))
    | refine wk_seq ?_ | refine wk_region ?_ | refine wk_skip ?_ | refine wk_draw (by kernel_rfl) (by decide +kernel) ?_ | refine wk_drawn [(2, 5)] (by kernel_rfl) (by decide +kernel) ?_ | refine wo_nil ?_ | refine wk_cond ?_ | refine wk_ret ?_ | refine wk_nil ?_ | refine wo_dst rfl (opR_call ?_) | refine wo_nodst (opR_call ?_) | refine wo_dst rfl (opR_pure ?_) | refine wo_nodst (opR_pure ?_)
    | refine wd_dst rfl (opR_call ?_) | refine wd_nodst (opR_call ?_) | refine wd_dst rfl (opR_pick ?_) | refine wd_guard rfl rfl ?_ | refine wd_guardn rfl ?_ | refine wd_dst rfl (opR_pure ?_) | refine wd_nodst (opR_pure ?_) | refine opR_call ?_ | refine opR_pick ?_ | refine opR_pure ?_ | (refine wd_nil ?_; refine doneD rfl rfl ?_ ?_) | refine again_nil | refine again_cons ?_ ?_ | refine again_plain rfl rfl rfl ?_ | refine again_guard rfl rfl rfl rfl ?_ | exact same_undef | exact same_of rfl rfl | refine give_ret ?_ | refine give_end ?_)
  all_goals first | exact smw | skip
  have hg6 : ∀ ob ob2, Gr h4 ((h4.new ob).set h4.next ob2) := fun ob ob2 => (Gr.new (Gr.refl _) ob).set (Nat.le_refl _) ob2
  refine ⟨⟨W, L, bo, 23, rfl, by simp only [next_new, next_set]; omega, by rw [get_set_ne (by omega), (hg6 _ _).2 _ (by omega)]; exact hB4, (hel4.gr (hg6 _ _)).keep (H' := _) (p := True) (q := h.next + 1) (Nat.le_refl _) (fun c hc hne => get_set_ne (Ne.symm (hne trivial)) _) (fun _ => by rw [(hg6 _ _).2 _ (by omega)]; exact hp4) (by decide), hLl, hro⟩, Gr.set (gr4.trans (hg6 _ _)) (by omega) _⟩
end Go.Proofs.YtelepfablohdmaaDoor
