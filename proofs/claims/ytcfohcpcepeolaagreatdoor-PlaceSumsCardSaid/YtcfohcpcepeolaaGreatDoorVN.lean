/- Contracts: numberOf of great numbers, Near; of the reference: placed. -/
import Derived.Test.YtcfohcpcepeolaaGreatDoorVR
set_option linter.unusedSimpArgs false
set_option linter.unusedVariables false
/- Contracts for Near: power, SamePlace; of the reference: bigOf, power, over. -/
namespace Go.Proofs.YtcfohcpcepeolaaGreatDoor
open Go.Ev
set_option maxRecDepth 100000 in
set_option maxHeartbeats 8000000 in
theorem sameplace_w (l m : List Int) (s t : Int) (v u : Value) (h : AHeap) (hv : IIn h v l) (hu : IIn h u m) (hl : l.length ≤ 9223372036854775807) :
    Wc pr (.func 26) [.agg #[v, .int .i64 s], .agg #[u, .int .i64 t]] h fun r h' => r = .bool (decide (s = t ∧ l = m)) ∧ Gr h h' := by
  obtain ⟨a, c, rfl, _⟩ := id hv
  obtain ⟨a', c', rfl, _⟩ := id hu
  refine wc_func Tryz.func26 rfl rfl rfl rfl ?_
  by_cases hst : s = t
  · repeat' (first
    | ((with_reducible first | refine optP_id ?_ | refine condP_id ?_ | refine condO_id ?_ | refine resP_id ?_ | refine callT_of ?_); conv => { arg 1; simp (disch := first | assumption | omega) only [push_cast, ↓reduceIte, reduceIte, Nat.reduceEqDiff, Nat.reduceAdd, Nat.reduceSub, Nat.reduceMul, Nat.reduceBEq, Int.reduceNeg] }; first | ((with_reducible refine optP_id ?_); refine optP_some ?_) | ((with_reducible refine condP_id ?_); first | refine qcy ?_ | refine qcx ?_ | refine qco ?_ | refine condP_decn (fun hc => ?_) (fun hc => ?_) | refine condP_dec (fun hc => ?_) (fun hc => ?_) | refine qct ?_ | refine qcf ?_ | refine condP_bool (fun hc => ?_) (fun hc => ?_)) | ((with_reducible refine condO_id ?_); refine condO_some ?_) | ((with_reducible refine resP_id ?_); refine resP_one ?_) | ((with_reducible refine callT_to ?_); refine callP_plain ?_))
    | refine wk_seq ?_ | refine wk_region ?_ | refine wo_nil ?_ | refine wk_ret ?_ | refine wk_nil ?_ | refine wo_dst rfl (opR_call ?_) | refine wo_nodst (opR_call ?_) | refine wo_dst rfl (opR_pick ?_) | refine wo_guard rfl rfl ?_ | refine wo_guardn rfl ?_ | refine wo_dst rfl (opR_pure ?_) | refine wo_nodst (opR_pure ?_)
    | refine give_ret ?_ | refine give_end ?_)
    refine (eqints_w l m _ _ _ (SlIn.gr hv (by (repeat (first | exact Gr.refl _ | assumption | (refine Gr.trans ?_ (by assumption)) | refine Gr.set ?_ (by first | exact Nat.le_refl _ | omega | (simp only [next_new, next_set]; omega)) _ | refine Gr.new ?_ _)))) (SlIn.gr hu (by (repeat (first | exact Gr.refl _ | assumption | (refine Gr.trans ?_ (by assumption)) | refine Gr.set ?_ (by first | exact Nat.le_refl _ | omega | (simp only [next_new, next_set]; omega)) _ | refine Gr.new ?_ _)))) hl).mono ?_
    rintro _ _ ⟨rfl, rfl⟩
    by_cases hlm : l = m
    · rw [decide_eq_true hlm]
      repeat' (first
    | ((with_reducible first | refine optP_id ?_ | refine condP_id ?_ | refine condO_id ?_ | refine resP_id ?_ | refine callT_of ?_); conv => { arg 1; simp (disch := first | assumption | omega) only [push_cast, ↓reduceIte, reduceIte, Nat.reduceEqDiff, Nat.reduceAdd, Nat.reduceSub, Nat.reduceMul, Nat.reduceBEq, Int.reduceNeg] }; first | ((with_reducible refine optP_id ?_); refine optP_some ?_) | ((with_reducible refine condP_id ?_); first | refine qcy ?_ | refine qcx ?_ | refine qco ?_ | refine condP_decn (fun hc => ?_) (fun hc => ?_) | refine condP_dec (fun hc => ?_) (fun hc => ?_) | refine qct ?_ | refine qcf ?_ | refine condP_bool (fun hc => ?_) (fun hc => ?_)) | ((with_reducible refine condO_id ?_); refine condO_some ?_) | ((with_reducible refine resP_id ?_); refine resP_one ?_) | ((with_reducible refine callT_to ?_); refine callP_plain ?_))
    | refine wk_seq ?_ | refine wk_region ?_ | refine wo_nil ?_ | refine wk_ret ?_ | refine wk_nil ?_ | refine wo_dst rfl (opR_call ?_) | refine wo_nodst (opR_call ?_) | refine wo_dst rfl (opR_pick ?_) | refine wo_guard rfl rfl ?_ | refine wo_guardn rfl ?_ | refine wo_dst rfl (opR_pure ?_) | refine wo_nodst (opR_pure ?_)
    | refine give_ret ?_ | refine give_end ?_)
      exact ⟨btrue ⟨hst, hlm⟩, by (repeat (first | exact Gr.refl _ | assumption | (refine Gr.trans ?_ (by assumption)) | refine Gr.set ?_ (by first | exact Nat.le_refl _ | omega | (simp only [next_new, next_set]; omega)) _ | refine Gr.new ?_ _))⟩
    · rw [decide_eq_false hlm]
      repeat' (first
    | ((with_reducible first | refine optP_id ?_ | refine condP_id ?_ | refine condO_id ?_ | refine resP_id ?_ | refine callT_of ?_); conv => { arg 1; simp (disch := first | assumption | omega) only [push_cast, ↓reduceIte, reduceIte, Nat.reduceEqDiff, Nat.reduceAdd, Nat.reduceSub, Nat.reduceMul, Nat.reduceBEq, Int.reduceNeg] }; first | ((with_reducible refine optP_id ?_); refine optP_some ?_) | ((with_reducible refine condP_id ?_); first | refine qcy ?_ | refine qcx ?_ | refine qco ?_ | refine condP_decn (fun hc => ?_) (fun hc => ?_) | refine condP_dec (fun hc => ?_) (fun hc => ?_) | refine qct ?_ | refine qcf ?_ | refine condP_bool (fun hc => ?_) (fun hc => ?_)) | ((with_reducible refine condO_id ?_); refine condO_some ?_) | ((with_reducible refine resP_id ?_); refine resP_one ?_) | ((with_reducible refine callT_to ?_); refine callP_plain ?_))
    | refine wk_seq ?_ | refine wk_region ?_ | refine wo_nil ?_ | refine wk_ret ?_ | refine wk_nil ?_ | refine wo_dst rfl (opR_call ?_) | refine wo_nodst (opR_call ?_) | refine wo_dst rfl (opR_pick ?_) | refine wo_guard rfl rfl ?_ | refine wo_guardn rfl ?_ | refine wo_dst rfl (opR_pure ?_) | refine wo_nodst (opR_pure ?_)
    | refine give_ret ?_ | refine give_end ?_)
      exact ⟨bfalse fun h => hlm h.2, by (repeat (first | exact Gr.refl _ | assumption | (refine Gr.trans ?_ (by assumption)) | refine Gr.set ?_ (by first | exact Nat.le_refl _ | omega | (simp only [next_new, next_set]; omega)) _ | refine Gr.new ?_ _))⟩
  · repeat' (first
    | ((with_reducible first | refine optP_id ?_ | refine condP_id ?_ | refine condO_id ?_ | refine resP_id ?_ | refine callT_of ?_); conv => { arg 1; simp (disch := first | assumption | omega) only [push_cast, ↓reduceIte, reduceIte, Nat.reduceEqDiff, Nat.reduceAdd, Nat.reduceSub, Nat.reduceMul, Nat.reduceBEq, Int.reduceNeg] }; first | ((with_reducible refine optP_id ?_); refine optP_some ?_) | ((with_reducible refine condP_id ?_); first | refine qcy ?_ | refine qcx ?_ | refine qco ?_ | refine condP_decn (fun hc => ?_) (fun hc => ?_) | refine condP_dec (fun hc => ?_) (fun hc => ?_) | refine qct ?_ | refine qcf ?_ | refine condP_bool (fun hc => ?_) (fun hc => ?_)) | ((with_reducible refine condO_id ?_); refine condO_some ?_) | ((with_reducible refine resP_id ?_); refine resP_one ?_) | ((with_reducible refine callT_to ?_); refine callP_plain ?_))
    | refine wk_seq ?_ | refine wk_region ?_ | refine wo_nil ?_ | refine wk_ret ?_ | refine wk_nil ?_ | refine wo_dst rfl (opR_call ?_) | refine wo_nodst (opR_call ?_) | refine wo_dst rfl (opR_pick ?_) | refine wo_guard rfl rfl ?_ | refine wo_guardn rfl ?_ | refine wo_dst rfl (opR_pure ?_) | refine wo_nodst (opR_pure ?_)
    | refine give_ret ?_ | refine give_end ?_)
    exact ⟨bfalse fun h => hst h.1, by (repeat (first | exact Gr.refl _ | assumption | (refine Gr.trans ?_ (by assumption)) | refine Gr.set ?_ (by first | exact Nat.le_refl _ | omega | (simp only [next_new, next_set]; omega)) _ | refine Gr.new ?_ _))⟩
end Go.Proofs.YtcfohcpcepeolaaGreatDoor
/- Contracts of the reference: over, plus, placed; numberOf of great numbers. -/
namespace Go.Proofs.YtcfohcpcepeolaaGreatDoor
open Go.Ev
end Go.Proofs.YtcfohcpcepeolaaGreatDoor
/- Contracts of the reference: plus, placed. -/
namespace Go.Proofs.YtcfohcpcepeolaaGreatDoor
open Go.Ev
theorem max2b {P : Program} (h : AHeap) (ts : List TypeId) (a b : Nat) : builtinOp P h .max ts [.int .i64 (a : Int), .int .i64 (b : Int)] = some (.int .i64 ((max a b : Nat) : Int), h) := by
  show some (Value.int .i64 (cond (ltI (a : Int) (b : Int)) (b : Int) (a : Int)), h) = _
  rw [ltI_spec]
  by_cases hab : (a : Int) < (b : Int)
  · rw [decide_eq_true hab, cond_true, show max a b = b by omega]
  · rw [decide_eq_false hab, cond_false, show max a b = a by omega]
theorem take_more {l : List Int} {i : Nat} (h : ¬ i < l.length) : l.take (i + 1) = l.take i := by
  rw [List.take_of_length_le (by omega), List.take_of_length_le (by omega)]
/-- the i-th digit, or 0 -/
def digAt (l : List Int) (i : Nat) : Nat := (l[i]?.getD 0).toNat
theorem digAt_take (l : List Int) (i : Nat) : leN (l.take (i + 1)) = leN (l.take i) + digAt l i * 60 ^ i := by
  by_cases h : i < l.length
  · rw [leN_take h, digAt, List.getElem?_eq_getElem h]; rfl
  · rw [take_more h, digAt, List.getElem?_eq_none (by omega)]; simp
theorem digAt_lt {l : List Int} (h : digs l) (i : Nat) : digAt l i < 60 := by
  unfold digAt
  by_cases hi : i < l.length
  · rw [List.getElem?_eq_getElem hi]
    have := h _ (List.getElem_mem hi)
    simp
    omega
  · rw [List.getElem?_eq_none (by omega)]; decide
theorem digAt_get {l : List Int} (h : digs l) {i : Nat} (hi : i < l.length) : l[i] = (digAt l i : Int) := by
  have := h _ (List.getElem_mem hi)
  rw [digAt, List.getElem?_eq_getElem hi]
  simp
  omega
theorem digAt_no {l : List Int} {i : Nat} (hi : ¬ i < l.length) : digAt l i = 0 := by
  rw [digAt, List.getElem?_eq_none (by omega)]; rfl
theorem set_val {O : List Int} {k o v : Nat} (hk : k < O.length) (ho : O[k] = (o : Int)) : leN (O.set k (v : Int)) + o * 60 ^ k = leN O + v * 60 ^ k := by
  have := leN_set hk (v : Int)
  rw [ho, Int.toNat_natCast, Int.toNat_natCast] at this
  exact this
set_option maxRecDepth 100000 in
set_option maxHeartbeats 16000000 in
theorem rplus_w (x y : List Int) (hx : digs x) (hy : digs y) (lx : x.length ≤ 200) (ly : y.length ≤ 200) (v u : Value) (h : AHeap) (hv : IIn h v x) (hu : IIn h u y) :
    Wc pr (.func 99) [v, u] h fun r h' => (∃ m a c, r = .slice a m.length c ∧ IIn h' (.slice a m.length c) m ∧ digs m ∧ noEnd m ∧ leN m = leN x + leN y ∧ m.length ≤ 201) ∧ Gr h h' := by
  obtain ⟨ax, cx, rfl, _, hvx⟩ := id hv
  obtain ⟨ay, cy, rfl, _, hvy⟩ := id hu
  obtain ⟨N, hN⟩ : ∃ N, N = max x.length y.length + 1 := ⟨_, rfl⟩
  have mk := mk22 N (by omega)
  obtain ⟨M, hM⟩ : ∃ M, M = max x.length y.length := ⟨_, rfl⟩
  have mx : ∀ H ts, builtinOp Tryz.prog H .max ts [.int .i64 (x.length : Int), .int .i64 (y.length : Int)] = some (.int .i64 (M : Int), H) := fun H ts => by rw [hM]; exact max2b H ts _ _
  have eN : (M : Int) + 1 = (N : Int) := by omega
  refine wc_func Tryz.func99 rfl rfl rfl rfl ?_
  repeat' (first
    | ((with_reducible first | refine optP_id ?_ | refine condP_id ?_ | refine resP_id ?_ | refine callT_of ?_); conv => { arg 1; simp (disch := first | assumption | omega) only [push_cast, ↓reduceIte, reduceIte, Nat.reduceEqDiff, Nat.reduceAdd, Nat.reduceSub, Nat.reduceMul, Nat.reduceBEq, Int.reduceNeg, mx, eN, mk] }; first | ((with_reducible refine optP_id ?_); refine optP_some ?_) | ((with_reducible refine condP_id ?_); first | refine qcy ?_ | refine qcx ?_ | refine qco ?_ | refine condP_decn (fun hc => ?_) (fun hc => ?_) | refine condP_dec (fun hc => ?_) (fun hc => ?_) | refine qct ?_ | refine qcf ?_ | refine condP_bool (fun hc => ?_) (fun hc => ?_)) | ((with_reducible refine resP_id ?_); refine resP_one ?_) | ((with_reducible refine callT_to ?_); refine callP_plain ?_))
    | refine wk_seq ?_ | refine wk_region ?_ | refine wk_block ?_ | refine wk_inBlock ?_ | refine wk_skip ?_ | refine wk_draw (by kernel_rfl) (by decide +kernel) ?_ | refine wo_nil ?_ | refine wk_exit ?_ | refine exitK_code ?_ | refine exitK_hit ?_ | refine exitK_miss rfl ?_ | refine exitK_inLoop ?_ | refine wk_cond ?_ | refine wk_ret ?_ | refine wk_nil ?_ | refine wo_dst rfl (opR_call ?_) | refine wo_nodst (opR_call ?_) | refine wo_dst rfl (opR_pure ?_) | refine wo_nodst (opR_pure ?_)
    | refine give_ret ?_ | refine give_end ?_)
  refine wk_loop (fun n E H => ∃ (i : Nat) (O : List Int), n = N - i ∧ i ≤ N ∧ O.length = N ∧ (∀ k (hk : k < O.length), k < i → 0 ≤ O[k] ∧ O[k] < 60) ∧ (∀ hk : i < O.length, O[i] = 0 ∨ O[i] = 1) ∧ (∀ k (hk : k < O.length), i < k → O[k] = 0) ∧ leN O = leN (x.take i) + leN (y.take i) ∧ Gr h H ∧ h.next < H.next ∧ H.get h.next = some (.cells (ints .i64 O) 3 true) ∧ E.look 0 top = .slice ax x.length cx ∧ E.look 1 top = .slice ay y.length cy ∧ E.look 5 top = .slice (some ⟨h.next, 0, none⟩) N (EX + N) ∧ E.look 6 top = .int .i64 (i : Int)) N
    ⟨0, List.replicate N 0, by omega, by omega, List.length_replicate, fun k _ hk => absurd hk (Nat.not_lt_zero k), fun hk => .inl (List.getElem_replicate ..), fun k hk _ => List.getElem_replicate .., by rw [leN_zeros]; simp [leN], by (repeat (first | exact Gr.refl _ | assumption | (refine Gr.trans ?_ (by assumption)) | refine Gr.set ?_ (by first | exact Nat.le_refl _ | omega | (simp only [next_new, next_set]; omega)) _ | refine Gr.new ?_ _)), by simp only [next_new]; omega, by simp (disch := first | assumption | omega) only [push_cast, ↓reduceIte, reduceIte, Nat.reduceEqDiff, Nat.reduceAdd, Nat.reduceSub, Nat.reduceMul, Nat.reduceBEq, Int.reduceNeg], by simp (disch := first | assumption | omega) only [push_cast, ↓reduceIte, reduceIte, Nat.reduceEqDiff, Nat.reduceAdd, Nat.reduceSub, Nat.reduceMul, Nat.reduceBEq, Int.reduceNeg], by simp (disch := first | assumption | omega) only [push_cast, ↓reduceIte, reduceIte, Nat.reduceEqDiff, Nat.reduceAdd, Nat.reduceSub, Nat.reduceMul, Nat.reduceBEq, Int.reduceNeg], by simp (disch := first | assumption | omega) only [push_cast, ↓reduceIte, reduceIte, Nat.reduceEqDiff, Nat.reduceAdd, Nat.reduceSub, Nat.reduceMul, Nat.reduceBEq, Int.reduceNeg], by simp (disch := first | assumption | omega) only [push_cast, ↓reduceIte, reduceIte, Nat.reduceEqDiff, Nat.reduceAdd, Nat.reduceSub, Nat.reduceMul, Nat.reduceBEq, Int.reduceNeg, Int.natCast_zero]⟩ ?_
  rintro n E H ⟨i, O, rfl, hi, lO, da, db, dc, vO, gr, hnx, cO, e0, e1, e5, e6⟩ next
  by_cases hlt : i < N
  · have ilt : (i : Int) < (N : Int) := by omega
    have hiO : i < O.length := by omega
    obtain ⟨o, ho, ho1⟩ : ∃ o : Nat, O[i] = (o : Int) ∧ o ≤ 1 := by
      rcases db hiO with q | q
      · exact ⟨0, by rw [q]; rfl, by omega⟩
      · exact ⟨1, by rw [q]; rfl, by omega⟩
    have tx := digAt_take x i
    have ty := digAt_take y i
    have bx := digAt_lt hx i
    have by' := digAt_lt hy i
    have xget : ∀ hh : i < x.length, x[i] = (digAt x i : Int) := fun hh => digAt_get hx hh
    have yget : ∀ hh : i < y.length, y[i] = (digAt y i : Int) := fun hh => digAt_get hy hh
    have xno : ¬ i < x.length → digAt x i = 0 := digAt_no
    have yno : ¬ i < y.length → digAt y i = 0 := digAt_no
    generalize digAt x i = p at *
    generalize digAt y i = q at *
    have hset : ∀ v : Nat, leN (O.set i (v : Int)) + o * 60 ^ i = leN O + v * 60 ^ i := fun v => set_val hiO ho
    have hsame : O.set i (o : Int) = O := by rw [← ho]; exact List.set_getElem_self hiO
    have lset : ∀ v : Int, (O.set i v).length = N := fun v => by rw [List.length_set]; exact lO
    have gset : ∀ (v : Int) (k : Nat) (hk : k < O.length), (O.set i v)[k]'(by rw [List.length_set]; exact hk) = if i = k then v else O[k] := fun v k hk => by rw [List.getElem_set]
    have at1 : ∀ v : Nat, at? (ints .i64 (O.set i (v : Int))) i = some (.int .i64 (v : Int)) := fun v => by rw [ints_at .i64 (by rw [lset]; exact hlt), List.getElem_set_self]
    have ov1 : ∀ a b : Nat, over (ints .i64 (O.set i (a : Int))) i [.int .i64 (b : Int)] = some (ints .i64 (O.set i (b : Int))) := fun a b => by rw [ints_over .i64 _ (by rw [lset]; exact hlt), List.set_set]
    have cO' : H.get h.next = some (.cells (ints .i64 (O.set i (o : Int))) 3 true) := by rw [hsame]; exact cO
    -- what is left behind: without a carry, and with one
    have finA : o + p + q < 60 → ∀ (E2 : Ev.Loc) (H2 : AHeap), Gr h H2 → h.next < H2.next → H2.get h.next = some (.cells (ints .i64 (O.set i ((o + p + q : Nat) : Int))) 3 true) → E2.look 0 top = .slice ax x.length cx → E2.look 1 top = .slice ay y.length cy → E2.look 5 top = .slice (some ⟨h.next, 0, none⟩) N (EX + N) → E2.look 6 top = .int .i64 ((i + 1 : Nat) : Int) → _ := fun hs E2 H2 g1 g2 g3 g4 g5 g6 g7 => next (N - (i + 1)) E2 H2 (by omega) ⟨i + 1, O.set i ((o + p + q : Nat) : Int), rfl, by omega, lset _, fun k hk hk2 => by
        have hk' : k < O.length := by rw [List.length_set] at hk; exact hk
        rw [gset _ k hk']
        by_cases e : i = k
        · rw [if_pos e]; omega
        · rw [if_neg e]; exact da k hk' (by omega), fun hk => by
        have hk' : i + 1 < O.length := by rw [List.length_set] at hk; exact hk
        rw [gset _ _ hk', if_neg (by omega)]
        exact .inl (dc _ hk' (by omega)), fun k hk hk2 => by
        have hk' : k < O.length := by rw [List.length_set] at hk; exact hk
        rw [gset _ k hk', if_neg (by omega)]
        exact dc k hk' (by omega), by
        have := hset (o + p + q)
        rw [tx, ty]
        rw [Nat.add_mul, Nat.add_mul] at this
        omega, g1, g2, g3, g4, g5, g6, g7⟩
    have hxl0 : i + 1 = N → p = 0 ∧ q = 0 := fun hh => ⟨xno (by omega), yno (by omega)⟩
    have finB : 60 ≤ o + p + q → ∀ (E2 : Ev.Loc) (H2 : AHeap), Gr h H2 → h.next < H2.next → H2.get h.next = some (.cells (ints .i64 ((O.set i ((o + p + q - 60 : Nat) : Int)).set (i + 1) 1)) 3 true) → E2.look 0 top = .slice ax x.length cx → E2.look 1 top = .slice ay y.length cy → E2.look 5 top = .slice (some ⟨h.next, 0, none⟩) N (EX + N) → E2.look 6 top = .int .i64 ((i + 1 : Nat) : Int) → _ := fun hs E2 H2 g1 g2 g3 g4 g5 g6 g7 => by
      have hi1 : i + 1 < N := by
        apply Classical.byContradiction
        intro hh
        have := hxl0 (by omega)
        omega
      have gB : ∀ (k : Nat) (hk : k < O.length), ((O.set i ((o + p + q - 60 : Nat) : Int)).set (i + 1) 1)[k]'(by rw [List.length_set, List.length_set]; exact hk) = if i + 1 = k then 1 else if i = k then ((o + p + q - 60 : Nat) : Int) else O[k] := fun k hk => by rw [List.getElem_set, List.getElem_set]
      refine next (N - (i + 1)) E2 H2 (by omega) ⟨i + 1, (O.set i ((o + p + q - 60 : Nat) : Int)).set (i + 1) 1, rfl, by omega, by rw [List.length_set]; exact lset _, fun k hk hk2 => ?_, fun hk => ?_, fun k hk hk2 => ?_, ?_, g1, g2, g3, g4, g5, g6, g7⟩
      · have hk' : k < O.length := by rw [List.length_set, List.length_set] at hk; exact hk
        rw [gB k hk', if_neg (by omega)]
        by_cases e : i = k
        · rw [if_pos e]; omega
        · rw [if_neg e]; exact da k hk' (by omega)
      · rw [gB _ (by omega), if_pos rfl]
        exact .inr rfl
      · have hk' : k < O.length := by rw [List.length_set, List.length_set] at hk; exact hk
        rw [gB k hk', if_neg (by omega), if_neg (by omega)]
        exact dc k hk' (by omega)
      · have h1 := hset (o + p + q - 60)
        have h2 : (O.set i ((o + p + q - 60 : Nat) : Int))[i + 1]'(by rw [lset]; exact hi1) = ((0 : Nat) : Int) := by
          rw [gset _ _ (by omega), if_neg (by omega), dc _ (by omega) (by omega)]; rfl
        have h3 := set_val (v := 1) (by rw [lset]; exact hi1) h2
        rw [Nat.zero_mul, Nat.add_zero, Nat.one_mul, Nat.pow_succ] at h3
        have h4 : ((1 : Nat) : Int) = 1 := rfl
        rw [h4] at h3
        rw [tx, ty, h3]
        have h5 : (o + p + q - 60) * 60 ^ i + 60 ^ i * 60 = o * 60 ^ i + p * 60 ^ i + q * 60 ^ i := by
          rw [Nat.mul_comm (60 ^ i) 60, ← Nat.add_mul, ← Nat.add_mul, ← Nat.add_mul]
          congr 1; omega
        omega
    obtain ⟨s1, hs1⟩ : ∃ s1, s1 = o + p := ⟨_, rfl⟩
    obtain ⟨s, hs⟩ : ∃ s, s = s1 + q := ⟨_, rfl⟩
    obtain ⟨t, ht⟩ : ∃ t, t = s - 60 := ⟨_, rfl⟩
    obtain ⟨i1, hi1⟩ : ∃ i1, i1 = i + 1 := ⟨_, rfl⟩
    have hss : o + p + q = s := by omega
    rw [hss] at finA finB
    rw [← ht, ← hi1] at finB
    rw [← hi1] at finA
    have eI : (i : Int) + 1 = (i1 : Int) := by omega
    have P1 : (o : Int) + (p : Int) = (s1 : Int) := by omega
    have P2 : (s1 : Int) + (q : Int) = (s : Int) := by omega
    have sb : s ≤ 119 := by omega
    have A0 := at1 o
    have A1 := at1 s1
    have A2 := at1 s
    have W1 := ov1 o s1
    have W2 := ov1 s1 s
    have W3 := ov1 s t
    have gn := gr.1
    by_cases hxl : i < x.length
    case' pos =>
      have XL : (i : Int) < (x.length : Int) := by omega
      obtain ⟨bx', offx, allx, rwx, hax, hbx, hgx, htx⟩ := hvx (by intro h; rw [h] at hxl; exact absurd hxl (Nat.not_lt_zero _))
      have hx1 := at_cut1 _ _ _ (htx i hxl)
      rw [Nat.mul_one, xget hxl] at hx1
      have hgxH : H.get bx' = some (.cells allx 3 rwx) := by rw [gr.2 bx' hbx]; exact hgx
      have e0' : E.look 0 top = .slice (some ⟨bx', offx, none⟩) x.length cx := by rw [e0, hax]
    case' neg =>
      have XL : ¬ (i : Int) < (x.length : Int) := by omega
      have hx1 := trivial
      have hgxH := trivial
      have e0' := e0
      have hp0 := xno hxl
      obtain rfl : s1 = o := by omega
    all_goals
      by_cases hyl : i < y.length
      case' pos =>
        have YL : (i : Int) < (y.length : Int) := by omega
        obtain ⟨by2, offy, ally, rwy, hay, hby, hgy, hty⟩ := hvy (by intro h; rw [h] at hyl; exact absurd hyl (Nat.not_lt_zero _))
        have hy1 := at_cut1 _ _ _ (hty i hyl)
        rw [Nat.mul_one, yget hyl] at hy1
        have hgyH : H.get by2 = some (.cells ally 3 rwy) := by rw [gr.2 by2 hby]; exact hgy
        have e1' : E.look 1 top = .slice (some ⟨by2, offy, none⟩) y.length cy := by rw [e1, hay]
      case' neg =>
        have YL : ¬ (i : Int) < (y.length : Int) := by omega
        have hy1 := trivial
        have hgyH := trivial
        have e1' := e1
        have hq0 := yno hyl
        obtain rfl : s = s1 := by omega
      all_goals
        by_cases h60 : s < 60
        case' pos =>
          have S60 : ¬ (s : Int) ≥ 60 := by omega
          have P3 := trivial
          have W4 := trivial
        case' neg =>
          have S60 : (s : Int) ≥ 60 := by omega
          have P3 : (s : Int) - 60 = (t : Int) := by omega
          have i1N : i1 < N := by
            apply Classical.byContradiction
            intro hh
            have := hxl0 (by omega)
            omega
          have W4 : over (ints .i64 (O.set i (t : Int))) i1 [.int .i64 1] = some (ints .i64 ((O.set i (t : Int)).set i1 1)) := ints_over .i64 _ (by rw [lset]; exact i1N)
        all_goals try (exfalso; omega)
        all_goals
          repeat' (first
    | ((with_reducible first | refine optP_id ?_ | refine condP_id ?_ | refine resP_id ?_ | refine callT_of ?_); conv => { arg 1; simp (disch := first | assumption | omega) only [push_cast, ↓reduceIte, reduceIte, Nat.reduceEqDiff, Nat.reduceAdd, Nat.reduceSub, Nat.reduceMul, Nat.reduceBEq, Int.reduceNeg, e0', e1', e5, e6, cO', hgxH, hx1, hgyH, hy1, P1, P2, P3, A0, A1, A2, W1, W2, W3, W4, eI, Nat.zero_add, Nat.mul_one] }; first | ((with_reducible refine optP_id ?_); refine optP_some ?_) | ((with_reducible refine condP_id ?_); first | refine qcy ?_ | refine qcx ?_ | refine qco ?_ | refine condP_decn (fun hc => ?_) (fun hc => ?_) | refine condP_dec (fun hc => ?_) (fun hc => ?_) | refine qct ?_ | refine qcf ?_ | refine condP_bool (fun hc => ?_) (fun hc => ?_)) | ((with_reducible refine resP_id ?_); refine resP_one ?_) | ((with_reducible refine callT_to ?_); refine callP_plain ?_))
    | refine wk_seq ?_ | refine wk_region ?_ | refine wk_block ?_ | refine wk_inBlock ?_ | refine wk_skip ?_ | refine wk_draw (by kernel_rfl) (by decide +kernel) ?_ | refine wo_nil ?_ | refine wk_exit ?_ | refine exitK_code ?_ | refine exitK_hit ?_ | refine exitK_miss rfl ?_ | refine exitK_inLoop ?_ | refine wk_cond ?_ | refine wk_ret ?_ | refine wk_nil ?_ | refine wo_dst rfl (opR_call ?_) | refine wo_nodst (opR_call ?_) | refine wo_dst rfl (opR_pure ?_) | refine wo_nodst (opR_pure ?_)
    | refine give_ret ?_ | refine give_end ?_)
          first
            | exact finA h60 _ _ (by (repeat (first | exact Gr.refl _ | assumption | (refine Gr.trans ?_ (by assumption)) | refine Gr.set ?_ (by first | exact Nat.le_refl _ | omega | (simp only [next_new, next_set]; omega)) _ | refine Gr.new ?_ _))) (by first | omega | (simp only [next_set]; omega)) (by first | exact cO' | simp (disch := first | assumption | omega) only [push_cast, ↓reduceIte, reduceIte, Nat.reduceEqDiff, Nat.reduceAdd, Nat.reduceSub, Nat.reduceMul, Nat.reduceBEq, Int.reduceNeg]) (by simp (disch := first | assumption | omega) only [push_cast, ↓reduceIte, reduceIte, Nat.reduceEqDiff, Nat.reduceAdd, Nat.reduceSub, Nat.reduceMul, Nat.reduceBEq, Int.reduceNeg, e0]) (by simp (disch := first | assumption | omega) only [push_cast, ↓reduceIte, reduceIte, Nat.reduceEqDiff, Nat.reduceAdd, Nat.reduceSub, Nat.reduceMul, Nat.reduceBEq, Int.reduceNeg, e1]) (by simp (disch := first | assumption | omega) only [push_cast, ↓reduceIte, reduceIte, Nat.reduceEqDiff, Nat.reduceAdd, Nat.reduceSub, Nat.reduceMul, Nat.reduceBEq, Int.reduceNeg, e5]) (by simp (disch := first | assumption | omega) only [push_cast, ↓reduceIte, reduceIte, Nat.reduceEqDiff, Nat.reduceAdd, Nat.reduceSub, Nat.reduceMul, Nat.reduceBEq, Int.reduceNeg])
            | exact finB (by omega) _ _ (by (repeat (first | exact Gr.refl _ | assumption | (refine Gr.trans ?_ (by assumption)) | refine Gr.set ?_ (by first | exact Nat.le_refl _ | omega | (simp only [next_new, next_set]; omega)) _ | refine Gr.new ?_ _))) (by simp only [next_set]; omega) (by simp (disch := first | assumption | omega) only [push_cast, ↓reduceIte, reduceIte, Nat.reduceEqDiff, Nat.reduceAdd, Nat.reduceSub, Nat.reduceMul, Nat.reduceBEq, Int.reduceNeg]) (by simp (disch := first | assumption | omega) only [push_cast, ↓reduceIte, reduceIte, Nat.reduceEqDiff, Nat.reduceAdd, Nat.reduceSub, Nat.reduceMul, Nat.reduceBEq, Int.reduceNeg, e0]) (by simp (disch := first | assumption | omega) only [push_cast, ↓reduceIte, reduceIte, Nat.reduceEqDiff, Nat.reduceAdd, Nat.reduceSub, Nat.reduceMul, Nat.reduceBEq, Int.reduceNeg, e1]) (by simp (disch := first | assumption | omega) only [push_cast, ↓reduceIte, reduceIte, Nat.reduceEqDiff, Nat.reduceAdd, Nat.reduceSub, Nat.reduceMul, Nat.reduceBEq, Int.reduceNeg, e5]) (by simp (disch := first | assumption | omega) only [push_cast, ↓reduceIte, reduceIte, Nat.reduceEqDiff, Nat.reduceAdd, Nat.reduceSub, Nat.reduceMul, Nat.reduceBEq, Int.reduceNeg])
  · have ilt : ¬ (i : Int) < (N : Int) := by omega
    repeat' (first
    | ((with_reducible first | refine optP_id ?_ | refine condP_id ?_ | refine resP_id ?_ | refine callT_of ?_); conv => { arg 1; simp (disch := first | assumption | omega) only [push_cast, ↓reduceIte, reduceIte, Nat.reduceEqDiff, Nat.reduceAdd, Nat.reduceSub, Nat.reduceMul, Nat.reduceBEq, Int.reduceNeg, e0, e1, e5, e6] }; first | ((with_reducible refine optP_id ?_); refine optP_some ?_) | ((with_reducible refine condP_id ?_); first | refine qcy ?_ | refine qcx ?_ | refine qco ?_ | refine condP_decn (fun hc => ?_) (fun hc => ?_) | refine condP_dec (fun hc => ?_) (fun hc => ?_) | refine qct ?_ | refine qcf ?_ | refine condP_bool (fun hc => ?_) (fun hc => ?_)) | ((with_reducible refine resP_id ?_); refine resP_one ?_) | ((with_reducible refine callT_to ?_); refine callP_plain ?_))
    | refine wk_seq ?_ | refine wk_region ?_ | refine wk_block ?_ | refine wk_inBlock ?_ | refine wk_skip ?_ | refine wk_draw (by kernel_rfl) (by decide +kernel) ?_ | refine wo_nil ?_ | refine wk_exit ?_ | refine exitK_code ?_ | refine exitK_hit ?_ | refine exitK_miss rfl ?_ | refine exitK_inLoop ?_ | refine wk_cond ?_ | refine wk_ret ?_ | refine wk_nil ?_ | refine wo_dst rfl (opR_call ?_) | refine wo_nodst (opR_call ?_) | refine wo_dst rfl (opR_pure ?_) | refine wo_nodst (opR_pure ?_)
    | refine give_ret ?_ | refine give_end ?_)
    have dO : digs O := fun z hz => by
      obtain ⟨k, hk, rfl⟩ := List.getElem_of_mem hz
      exact da k hk (by omega)
    have hin : IIn H (.slice (some ⟨h.next, 0, none⟩) O.length (EX + N)) O := ints_inI hnx (by rw [capLo_ex, lO]; exact Nat.le_refl _) cO
    rw [lO] at hin
    refine (trim_w O dO _ _ hin (by omega)).mono ?_
    rintro _ _ ⟨⟨m, am, cm, rfl, im, dm, em, vm, lm, _⟩, rfl⟩
    have htx : x.take i = x := List.take_of_length_le (by omega)
    have hty : y.take i = y := List.take_of_length_le (by omega)
    rw [htx, hty] at vO
    repeat' (first
    | ((with_reducible first | refine optP_id ?_ | refine condP_id ?_ | refine resP_id ?_ | refine callT_of ?_); conv => { arg 1; simp (disch := first | assumption | omega) only [push_cast, ↓reduceIte, reduceIte, Nat.reduceEqDiff, Nat.reduceAdd, Nat.reduceSub, Nat.reduceMul, Nat.reduceBEq, Int.reduceNeg] }; first | ((with_reducible refine optP_id ?_); refine optP_some ?_) | ((with_reducible refine condP_id ?_); first | refine qcy ?_ | refine qcx ?_ | refine qco ?_ | refine condP_decn (fun hc => ?_) (fun hc => ?_) | refine condP_dec (fun hc => ?_) (fun hc => ?_) | refine qct ?_ | refine qcf ?_ | refine condP_bool (fun hc => ?_) (fun hc => ?_)) | ((with_reducible refine resP_id ?_); refine resP_one ?_) | ((with_reducible refine callT_to ?_); refine callP_plain ?_))
    | refine wk_seq ?_ | refine wk_region ?_ | refine wk_block ?_ | refine wk_inBlock ?_ | refine wk_skip ?_ | refine wk_draw (by kernel_rfl) (by decide +kernel) ?_ | refine wo_nil ?_ | refine wk_exit ?_ | refine exitK_code ?_ | refine exitK_hit ?_ | refine exitK_miss rfl ?_ | refine exitK_inLoop ?_ | refine wk_cond ?_ | refine wk_ret ?_ | refine wk_nil ?_ | refine wo_dst rfl (opR_call ?_) | refine wo_nodst (opR_call ?_) | refine wo_dst rfl (opR_pure ?_) | refine wo_nodst (opR_pure ?_)
    | refine give_ret ?_ | refine give_end ?_)
    exact ⟨⟨m, am, cm, rfl, im, dm, em, by rw [vm, vO], by omega⟩, gr⟩
end Go.Proofs.YtcfohcpcepeolaaGreatDoor
namespace Go.Proofs.YtcfohcpcepeolaaGreatDoor
open Go.Ev
/-- a place-value number: X times 60 to the power s -/
def plR (X : Nat) (s : Int) (v : Value) (sh : Int) (H : AHeap) : Prop := (X = 0 ∧ v = .slice none 0 0 ∧ sh = 0) ∨ (X ≠ 0 ∧ ∃ d e, IIn H v d ∧ valid d ∧ d ≠ [] ∧ valN d * 60 ^ e = X ∧ sh = s + ((e : Nat) : Int) ∧ d.length ≤ 1000)
theorem plR.gr {X : Nat} {s sh : Int} {v : Value} {H H' : AHeap} (p : plR X s v sh H) (g : Gr H H') : plR X s v sh H' := by
  rcases p with p | ⟨p, d, e, i, q⟩
  · exact .inl p
  · exact .inr ⟨p, d, e, SlIn.gr i g, q⟩
/-- it is a list, whatever it holds -/
theorem plR.list {X : Nat} {s sh : Int} {v : Value} {H : AHeap} (p : plR X s v sh H) : ∃ d a c, v = .slice a d.length c ∧ IIn H (.slice a d.length c) d ∧ okC (.slice a d.length c) = true := by
  rcases p with ⟨_, rfl, _⟩ | ⟨_, d, _, i, _, hn, _⟩
  · exact ⟨[], none, 0, rfl, ⟨none, 0, rfl, Nat.zero_le _, fun h => absurd rfl h⟩, rfl⟩
  · obtain ⟨a, c, rfl, _, hv⟩ := id i
    obtain ⟨b, off, _, _, rfl, _⟩ := hv hn
    exact ⟨d, _, c, rfl, i, rfl⟩
end Go.Proofs.YtcfohcpcepeolaaGreatDoor
