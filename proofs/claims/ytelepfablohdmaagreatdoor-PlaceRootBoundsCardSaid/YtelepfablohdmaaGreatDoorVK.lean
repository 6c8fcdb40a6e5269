/- Contract: ByTable, of heads of at most 15 digits. -/
import Derived.Test.YtelepfablohdmaaGreatDoorVA
import Derived.Test.YtelepfablohdmaaGreatDoorVJ
import Derived.Test.YtelepfablohdmaaGreatDoorVG
import Derived.Test.YtelepfablohdmaaGreatDoorWZ
set_option linter.unusedSimpArgs false
set_option linter.unusedVariables false
/- attempt, where its function does not panic. -/
namespace Go.Proofs.YtelepfablohdmaaGreatDoor
open Go.Ev
theorem gr_att {h1 : AHeap} {a : Nat} {z : AObj} (hz : h1.get a = some z) : Gr h1 (((h1.set a z).new z).set h1.next z) := by
  refine ⟨Nat.le_succ _, fun b hb => ?_⟩
  have e1 : (((h1.set a z).new z).set h1.next z).get b = ((h1.set a z).new z).get b := get_set_ne (by omega) _
  have e2 : ((h1.set a z).new z).get b = (h1.set a z).get b := get_new_ne (by rw [next_set]; omega) _
  rw [e1, e2]
  by_cases e : a = b
  · subst e; rw [get_set_self, hz]
  · rw [get_set_ne e]
set_option maxRecDepth 100000 in
theorem att_w {g : FuncId} {fs cs : List Value} {h : AHeap} {Q : Value → AHeap → Prop}
    (c : Wc pr (.func g) (fs ++ [] ++ cs) (h.new zz) fun _ h1 => h1.get h.next = some zz ∧ h.next < h1.next ∧ ∀ h2, Gr h1 h2 → Q (.agg #[.int .i64 0, .int .i64 0]) h2) :
    Wc pr (.func 67) [.func (.func g) ⟨fs⟩ ⟨cs⟩] h Q := by
  obtain ⟨v, h1, ⟨N, hN⟩, hz, hn, hq⟩ := c
  exact wc_x rfl ⟨N, fun n S hn' hS => att_run _ h h1 g fs cs v (hN n S hn' hS) hz (Nat.ne_of_gt hn)⟩ (hq _ (gr_att hz))
end Go.Proofs.YtelepfablohdmaaGreatDoor
/- The rows in which a digit is looked up; what contributions come to. -/
namespace Go.Proofs.YtelepfablohdmaaGreatDoor
open Go.Ev
theorem nilI (H : AHeap) : IIn H (.slice none 0 0) [] := ⟨none, 0, rfl, Nat.zero_le _, fun h => absurd rfl h⟩
theorem okC_sl (a : Option Addr) (n c : Nat) : okC (.slice a n c) = true := by cases a <;> rfl
/-- the rows in which a digit is looked up -/
def rowsD (d : Nat) : List Nat := if d = 0 then [] else if d ≤ 20 ∨ d % 10 = 0 then [d] else [d - d % 10, d % 10]
theorem rowsD_len (d : Nat) : (rowsD d).length ≤ 2 := by
  unfold rowsD
  split
  · simp
  · split <;> simp
theorem rowsD_mem {d n : Nat} (h : n ∈ rowsD d) : 1 ≤ n ∧ n ≤ d := by
  unfold rowsD at h
  split at h
  · cases h
  · split at h
    · rw [List.mem_singleton] at h; omega
    · rcases List.mem_cons.1 h with h | h
      · omega
      · rw [List.mem_singleton] at h; omega
theorem rowsD_sum (d : Nat) : (rowsD d).sum = d := by
  unfold rowsD
  split
  · simp; omega
  · split
    · simp
    · simp; omega
/-- a product of X with n, times 60 to the power after -/
def isC (X n after : Nat) (l : List Int) (s : Int) : Prop := valid l ∧ l ≠ [] ∧ okP l s ∧ ∃ e : Nat, valN l * 60 ^ e = X * n ∧ s = (after : Int) + (e : Int)
theorem isC_unit {X n after : Nat} {l : List Int} {s : Int} (h : isC X n after l s) : unitN l s = X * n * 60 ^ (after + 64) := by
  obtain ⟨h1, h2, h3, e, h4, rfl⟩ := h
  rw [unitN, ← h4, show ((after : Int) + (e : Int) + 64).toNat = e + (after + 64) by omega, Nat.pow_add, Nat.mul_assoc]
theorem sumU_all (L : List (List Int × Int)) : sumU L L.length = (L.map fun x => unitN x.1 x.2).sum := by rw [sumU, List.take_length]
/-- what contributions come to: so many at most, all valid, and so much in units -/
def cInv (X rest T m : Nat) (L : List (List Int × Int)) : Prop := L.length ≤ m ∧ (∀ x ∈ L, okP x.1 x.2) ∧ (L.map fun x => unitN x.1 x.2).sum + X * rest * 60 ^ 64 = X * T * 60 ^ 64
theorem cInv_nil (X T : Nat) : cInv X T T 0 [] := ⟨Nat.le_refl _, fun x h => (nomatch h), by simp⟩
theorem cInv_snoc {X rest T m n a : Nat} {L : List (List Int × Int)} {l : List Int} {s : Int} (h : cInv X (n * 60 ^ a + rest) T m L) (hc : isC X n a l s) : cInv X rest T (m + 1) (L ++ [(l, s)]) := by
  obtain ⟨h1, h2, h3⟩ := h
  refine ⟨by rw [List.length_append]; simp; omega, fun x hx => ?_, ?_⟩
  · rcases List.mem_append.1 hx with hx | hx
    · exact h2 x hx
    · rw [List.mem_singleton.1 hx]; exact hc.2.2.1
  · rw [List.map_append, List.sum_append, ← h3]
    have := isC_unit hc
    simp only [List.map_cons, List.map_nil, List.sum_cons, List.sum_nil, Nat.add_zero]
    rw [this, Nat.pow_add]
    generalize 60 ^ 64 = U
    generalize 60 ^ a = A
    grind
theorem cInv_mono {X rest T m m' : Nat} {L : List (List Int × Int)} (h : cInv X rest T m L) (hm : m ≤ m') : cInv X rest T m' L := ⟨Nat.le_trans h.1 hm, h.2⟩
theorem drop_sum {l : List Nat} {q : Nat} (h : q < l.length) : (l.drop q).sum = l[q] + (l.drop (q + 1)).sum := by
  rw [List.drop_eq_getElem_cons h, List.sum_cons]
/-- cells of place-value numbers and what they are -/
def els (H : AHeap) (W : List (Value × Int)) (L : List (List Int × Int)) : Prop := W.length = L.length ∧ ∀ i (h1 : i < W.length) (h2 : i < L.length), W[i].2 = L[i].2 ∧ IIn H W[i].1 L[i].1 ∧ okC W[i].1 = true
theorem els_nil (H : AHeap) : els H [] [] := ⟨rfl, fun i h => absurd h (Nat.not_lt_zero i)⟩
theorem get_last {α : Type} (l : List α) (x : α) {i : Nat} (hi : i = l.length) (h : i < (l ++ [x]).length) : (l ++ [x])[i] = x := by subst hi; simp
theorem els.snoc {H : AHeap} {W : List (Value × Int)} {L : List (List Int × Int)} {v : Value} {l : List Int} {s : Int} (h : els H W L) (hv : IIn H v l) (ho : okC v = true) : els H (W ++ [(v, s)]) (L ++ [(l, s)]) := by
  obtain ⟨h1, h2⟩ := h
  refine ⟨by rw [List.length_append, List.length_append, h1]; rfl, fun i a b => ?_⟩
  by_cases hi : i < W.length
  · rw [List.getElem_append_left hi, List.getElem_append_left (by omega)]
    exact h2 i hi (by omega)
  · have ei : i = W.length := by simp at a; omega
    rw [get_last W (v, s) ei a, get_last L (l, s) (by omega) b]
    exact ⟨rfl, hv, ho⟩
theorem IIn.keep {H H' : AHeap} {v : Value} {l : List Int} {q e' : Nat} {C : List Value} {rw' : Bool} {p : Prop} (h : IIn H v l) (hn : H.next ≤ H'.next) (hk : ∀ c, c < H.next → (p → c ≠ q) → H'.get c = H.get c) (hq : p → H.get q = some (.cells C e' rw')) (he : e' ≠ 3) : IIn H' v l := by
  obtain ⟨a', c', e, hc, hv⟩ := h
  refine ⟨a', c', e, hc, fun hne => ?_⟩
  obtain ⟨b, off, all, rw2, h1, h2, h3, h4⟩ := hv hne
  exact ⟨b, off, all, rw2, h1, by omega, by
    rw [hk b h2 (fun hp e => by subst e; rw [hq hp] at h3; cases h3; exact he rfl)]; exact h3, h4⟩
theorem els.keep {H H' : AHeap} {W : List (Value × Int)} {L : List (List Int × Int)} {q e' : Nat} {C : List Value} {rw' : Bool} {p : Prop} (h : els H W L) (hn : H.next ≤ H'.next) (hk : ∀ c, c < H.next → (p → c ≠ q) → H'.get c = H.get c) (hq : p → H.get q = some (.cells C e' rw')) (he : e' ≠ 3) : els H' W L :=
  ⟨h.1, fun i a b => ⟨(h.2 i a b).1, (h.2 i a b).2.1.keep hn hk hq he, (h.2 i a b).2.2⟩⟩
theorem els.gr {H H' : AHeap} {W : List (Value × Int)} {L : List (List Int × Int)} (h : els H W L) (g : Gr H H') : els H' W L := ⟨h.1, fun i a b => ⟨(h.2 i a b).1, SlIn.gr (h.2 i a b).2.1 g, (h.2 i a b).2.2⟩⟩
end Go.Proofs.YtelepfablohdmaaGreatDoor
/- Contracts: rowsOf, contribution. -/
namespace Go.Proofs.YtelepfablohdmaaGreatDoor
open Go.Ev
theorem bs22_2 (x y : Int) : buildSliceA Tryz.prog 22 2 [(0, .int .i64 x), (1, .int .i64 y)] = some (.cells [.int .i64 x, .int .i64 y] 3 true, fun b => .slice (some ⟨b, 0, none⟩) 2 (EX + 2)) := by kernel_rfl
attribute [push_cast] bs22_2
theorem twoi_in {H : AHeap} {b : Nat} {x y : Int} (hb : b < H.next) (hg : H.get b = some (.cells [.int .i64 x, .int .i64 y] 3 true)) : IIn H (.slice (some ⟨b, 0, none⟩) 2 (EX + 2)) [x, y] :=
  own_in (l := [x, y]) (b := b) (c := EX + 2) encI_len (by rw [capLo_ex]; exact Nat.le_refl _) (fun _ => hb) (fun _ => ⟨true, hg⟩)
set_option maxRecDepth 100000 in
set_option maxHeartbeats 4000000 in
theorem rowsof_w (d : Nat) (hd : d ≤ 59) (h : AHeap) : Wc pr (.func 123) [.int .i64 (d : Int)] h fun r h' => (IIn h' r ((rowsD d).map Int.ofNat) ∧ okC r = true) ∧ Gr h h' := by
  refine wc_func Tryz.func123 rfl rfl rfl rfl ?_
  by_cases h0 : d = 0
  · subst h0
    have z0 : ((0 : Nat) : Int) = 0 := rfl
    repeat' (first
    | ((with_reducible first | refine optP_id ?_ | refine condP_id ?_ | refine condO_id ?_ | refine resP_id ?_); conv => { arg 1; simp (disch := first | assumption | omega) only [push_cast, ↓reduceIte, reduceIte, Nat.reduceEqDiff, Nat.reduceAdd, Nat.reduceSub, Nat.reduceMul, Nat.reduceBEq, Int.reduceNeg, z0] }; first | ((with_reducible refine optP_id ?_); refine optP_some ?_) | ((with_reducible refine condP_id ?_); first | refine qcy ?_ | refine qcx ?_ | refine qco ?_ | refine condP_decn (fun hc => ?_) (fun hc => ?_) | refine condP_dec (fun hc => ?_) (fun hc => ?_) | refine qct ?_ | refine qcf ?_ | refine condP_bool (fun hc => ?_) (fun hc => ?_)) | ((with_reducible refine condO_id ?_); refine condO_some ?_) | ((with_reducible refine resP_id ?_); refine resP_one ?_))
    | refine wk_seq ?_ | refine wk_region ?_ | refine wk_block ?_ | refine wk_inBlock ?_ | refine wk_skip ?_ | refine wo_nil ?_ | refine wk_cond ?_ | refine wk_ret ?_ | refine wk_nil ?_ | refine wo_dst rfl (opR_pick ?_) | refine wo_guard rfl rfl ?_ | refine wo_guardn rfl ?_ | refine wo_dst rfl (opR_pure ?_) | refine wo_nodst (opR_pure ?_)
    | refine give_ret ?_ | refine give_end ?_)
    exact ⟨⟨nilI _, rfl⟩, by (repeat (first | exact Gr.refl _ | assumption | (refine Gr.trans ?_ (by assumption)) | refine Gr.set ?_ (by first | exact Nat.le_refl _ | omega | (simp only [next_new, next_set]; omega)) _ | refine Gr.new ?_ _))⟩
  · have n0 : ¬ (d : Int) = 0 := by omega
    obtain ⟨q, hq, hqd⟩ : ∃ q : Nat, (d : Int).tmod 10 = (q : Int) ∧ q = d % 10 := ⟨d % 10, by rw [Int.tmod_eq_emod_of_nonneg (by omega)]; rfl, rfl⟩
    by_cases h20 : d ≤ 20
    · have i20 : (d : Int) ≤ 20 := by omega
      have hr : rowsD d = [d] := by simp [rowsD, h0, h20]
      repeat' (first
    | ((with_reducible first | refine optP_id ?_ | refine condP_id ?_ | refine condO_id ?_ | refine resP_id ?_); conv => { arg 1; simp (disch := first | assumption | omega) only [push_cast, ↓reduceIte, reduceIte, Nat.reduceEqDiff, Nat.reduceAdd, Nat.reduceSub, Nat.reduceMul, Nat.reduceBEq, Int.reduceNeg, hq] }; first | ((with_reducible refine optP_id ?_); refine optP_some ?_) | ((with_reducible refine condP_id ?_); first | refine qcy ?_ | refine qcx ?_ | refine qco ?_ | refine condP_decn (fun hc => ?_) (fun hc => ?_) | refine condP_dec (fun hc => ?_) (fun hc => ?_) | refine qct ?_ | refine qcf ?_ | refine condP_bool (fun hc => ?_) (fun hc => ?_)) | ((with_reducible refine condO_id ?_); refine condO_some ?_) | ((with_reducible refine resP_id ?_); refine resP_one ?_))
    | refine wk_seq ?_ | refine wk_region ?_ | refine wk_block ?_ | refine wk_inBlock ?_ | refine wk_skip ?_ | refine wo_nil ?_ | refine wk_cond ?_ | refine wk_ret ?_ | refine wk_nil ?_ | refine wo_dst rfl (opR_pick ?_) | refine wo_guard rfl rfl ?_ | refine wo_guardn rfl ?_ | refine wo_dst rfl (opR_pure ?_) | refine wo_nodst (opR_pure ?_)
    | refine give_ret ?_ | refine give_end ?_)
      exact ⟨⟨by rw [hr]; show IIn _ _ [(d : Int)]; exact onei_in (by simp only [next_new]; omega) (by simp (disch := first | assumption | omega) only [push_cast, ↓reduceIte, reduceIte, Nat.reduceEqDiff, Nat.reduceAdd, Nat.reduceSub, Nat.reduceMul, Nat.reduceBEq, Int.reduceNeg]), rfl⟩, by (repeat (first | exact Gr.refl _ | assumption | (refine Gr.trans ?_ (by assumption)) | refine Gr.set ?_ (by first | exact Nat.le_refl _ | omega | (simp only [next_new, next_set]; omega)) _ | refine Gr.new ?_ _))⟩
    · have i20 : ¬ (d : Int) ≤ 20 := by omega
      by_cases h10 : q = 0
      · have hr : rowsD d = [d] := by simp [rowsD, h0, h20, ← hqd, h10]
        have i10 : (q : Int) = 0 := by omega
        repeat' (first
    | ((with_reducible first | refine optP_id ?_ | refine condP_id ?_ | refine condO_id ?_ | refine resP_id ?_); conv => { arg 1; simp (disch := first | assumption | omega) only [push_cast, ↓reduceIte, reduceIte, Nat.reduceEqDiff, Nat.reduceAdd, Nat.reduceSub, Nat.reduceMul, Nat.reduceBEq, Int.reduceNeg, hq] }; first | ((with_reducible refine optP_id ?_); refine optP_some ?_) | ((with_reducible refine condP_id ?_); first | refine qcy ?_ | refine qcx ?_ | refine qco ?_ | refine condP_decn (fun hc => ?_) (fun hc => ?_) | refine condP_dec (fun hc => ?_) (fun hc => ?_) | refine qct ?_ | refine qcf ?_ | refine condP_bool (fun hc => ?_) (fun hc => ?_)) | ((with_reducible refine condO_id ?_); refine condO_some ?_) | ((with_reducible refine resP_id ?_); refine resP_one ?_))
    | refine wk_seq ?_ | refine wk_region ?_ | refine wk_block ?_ | refine wk_inBlock ?_ | refine wk_skip ?_ | refine wo_nil ?_ | refine wk_cond ?_ | refine wk_ret ?_ | refine wk_nil ?_ | refine wo_dst rfl (opR_pick ?_) | refine wo_guard rfl rfl ?_ | refine wo_guardn rfl ?_ | refine wo_dst rfl (opR_pure ?_) | refine wo_nodst (opR_pure ?_)
    | refine give_ret ?_ | refine give_end ?_)
        exact ⟨⟨by rw [hr]; show IIn _ _ [(d : Int)]; exact onei_in (by simp only [next_new]; omega) (by simp (disch := first | assumption | omega) only [push_cast, ↓reduceIte, reduceIte, Nat.reduceEqDiff, Nat.reduceAdd, Nat.reduceSub, Nat.reduceMul, Nat.reduceBEq, Int.reduceNeg]), rfl⟩, by (repeat (first | exact Gr.refl _ | assumption | (refine Gr.trans ?_ (by assumption)) | refine Gr.set ?_ (by first | exact Nat.le_refl _ | omega | (simp only [next_new, next_set]; omega)) _ | refine Gr.new ?_ _))⟩
      · have hr : rowsD d = [d - q, q] := by simp [rowsD, h0, h20, ← hqd, h10]
        have i10 : ¬ (q : Int) = 0 := by omega
        obtain ⟨r, hr2⟩ : ∃ r : Nat, r = d - q := ⟨_, rfl⟩
        have hsub : (d : Int) - (q : Int) = (r : Int) := by omega
        have hr3 : r ≤ 59 := by omega
        rw [← hr2] at hr
        repeat' (first
    | ((with_reducible first | refine optP_id ?_ | refine condP_id ?_ | refine condO_id ?_ | refine resP_id ?_); conv => { arg 1; simp (disch := first | assumption | omega) only [push_cast, ↓reduceIte, reduceIte, Nat.reduceEqDiff, Nat.reduceAdd, Nat.reduceSub, Nat.reduceMul, Nat.reduceBEq, Int.reduceNeg, hq, hsub] }; first | ((with_reducible refine optP_id ?_); refine optP_some ?_) | ((with_reducible refine condP_id ?_); first | refine qcy ?_ | refine qcx ?_ | refine qco ?_ | refine condP_decn (fun hc => ?_) (fun hc => ?_) | refine condP_dec (fun hc => ?_) (fun hc => ?_) | refine qct ?_ | refine qcf ?_ | refine condP_bool (fun hc => ?_) (fun hc => ?_)) | ((with_reducible refine condO_id ?_); refine condO_some ?_) | ((with_reducible refine resP_id ?_); refine resP_one ?_))
    | refine wk_seq ?_ | refine wk_region ?_ | refine wk_block ?_ | refine wk_inBlock ?_ | refine wk_skip ?_ | refine wo_nil ?_ | refine wk_cond ?_ | refine wk_ret ?_ | refine wk_nil ?_ | refine wo_dst rfl (opR_pick ?_) | refine wo_guard rfl rfl ?_ | refine wo_guardn rfl ?_ | refine wo_dst rfl (opR_pure ?_) | refine wo_nodst (opR_pure ?_)
    | refine give_ret ?_ | refine give_end ?_)
        exact ⟨⟨by rw [hr]; show IIn _ _ [(r : Int), (q : Int)]; exact twoi_in (by simp only [next_new]; omega) (by simp (disch := first | assumption | omega) only [push_cast, ↓reduceIte, reduceIte, Nat.reduceEqDiff, Nat.reduceAdd, Nat.reduceSub, Nat.reduceMul, Nat.reduceBEq, Int.reduceNeg]), rfl⟩, by (repeat (first | exact Gr.refl _ | assumption | (refine Gr.trans ?_ (by assumption)) | refine Gr.set ?_ (by first | exact Nat.le_refl _ | omega | (simp only [next_new, next_set]; omega)) _ | refine Gr.new ?_ _))⟩
set_option maxRecDepth 100000 in
set_option maxHeartbeats 8000000 in
theorem contrib_w (X n after : Nat) (hX0 : X ≠ 0) (hX : X < 60 ^ 15) (hn : 1 ≤ n) (hn2 : n ≤ 59) (ha : after ≤ 20) (h : AHeap) :
    Wc pr (.func 77) [numV X, .int .i64 (n : Int), .int .i64 (after : Int)] h fun r h' => (∃ l s a c, r = .agg #[.slice a l.length c, .int .i64 s] ∧ IIn h' (.slice a l.length c) l ∧ okC (.slice a l.length c) = true ∧ isC X n after l s) ∧ Gr h h' := by
  have wm := fun H => multiple_w X n (Nat.lt_of_lt_of_le hX (Nat.pow_le_pow_right (by decide) (by omega))) hn2 H
  have hXn : X * n < 60 ^ 16 := by
    have h1 := Nat.mul_le_mul (Nat.le_of_lt hX) hn2
    have h2 : 60 ^ 15 * 59 < 60 ^ 16 := by decide
    omega
  have hXn0 : X * n ≠ 0 := Nat.mul_ne_zero hX0 (by omega)
  have wp := fun H => place_w (X * n) (Nat.lt_of_lt_of_le hXn (Nat.pow_le_pow_right (by decide) (by omega))) (after : Int) (by omega) (by omega) H
  rw [num_cells] at *
  have hcx : takeN 146 (ints .u8 (numD X)) = some (ints .u8 (numD X)) := num_cut X
  have hfx := ints_flat .u8 (numD X)
  clear hX
  refine wc_func Tryz.func77 rfl rfl rfl rfl ?_
  generalize hCX : ints .u8 (numD X) = CX at *
  repeat' (first
    | ((with_reducible first | refine optP_id ?_ | refine condP_id ?_ | refine resP_id ?_ | refine callT_of ?_); conv => { arg 1; simp (disch := first | assumption | omega) only [push_cast, ↓reduceIte, reduceIte, Nat.reduceEqDiff, Nat.reduceAdd, Nat.reduceSub, Nat.reduceMul, Nat.reduceBEq, Int.reduceNeg, hfx, hcx] }; first | ((with_reducible refine optP_id ?_); refine optP_some ?_) | ((with_reducible refine condP_id ?_); first | refine qcy ?_ | refine qcx ?_ | refine qco ?_ | refine condP_decn (fun hc => ?_) (fun hc => ?_) | refine condP_dec (fun hc => ?_) (fun hc => ?_) | refine qct ?_ | refine qcf ?_ | refine condP_bool (fun hc => ?_) (fun hc => ?_)) | ((with_reducible refine resP_id ?_); refine resP_one ?_) | ((with_reducible refine callT_to ?_); refine callP_plain ?_))
    | refine wk_seq ?_ | refine wk_region ?_ | refine wk_skip ?_ | refine wo_nil ?_ | refine wk_cond ?_ | refine wk_ret ?_ | refine wk_nil ?_ | refine wo_dst rfl (opR_call ?_) | refine wo_nodst (opR_call ?_) | refine wo_dst rfl (opR_pure ?_) | refine wo_nodst (opR_pure ?_)
    | refine give_ret ?_ | refine give_end ?_)
  refine (wm _).mono ?_
  rintro _ h1 ⟨rfl, g1⟩; have n1 := g1.1; have k1 := g1.2; try simp only [next_new, next_set] at n1 k1
  repeat' (first
    | ((with_reducible first | refine optP_id ?_ | refine condP_id ?_ | refine resP_id ?_ | refine callT_of ?_); conv => { arg 1; simp (disch := first | assumption | omega) only [push_cast, ↓reduceIte, reduceIte, Nat.reduceEqDiff, Nat.reduceAdd, Nat.reduceSub, Nat.reduceMul, Nat.reduceBEq, Int.reduceNeg, k1] }; first | ((with_reducible refine optP_id ?_); refine optP_some ?_) | ((with_reducible refine condP_id ?_); first | refine qcy ?_ | refine qcx ?_ | refine qco ?_ | refine condP_decn (fun hc => ?_) (fun hc => ?_) | refine condP_dec (fun hc => ?_) (fun hc => ?_) | refine qct ?_ | refine qcf ?_ | refine condP_bool (fun hc => ?_) (fun hc => ?_)) | ((with_reducible refine resP_id ?_); refine resP_one ?_) | ((with_reducible refine callT_to ?_); refine callP_plain ?_))
    | refine wk_seq ?_ | refine wk_region ?_ | refine wk_skip ?_ | refine wo_nil ?_ | refine wk_cond ?_ | refine wk_ret ?_ | refine wk_nil ?_ | refine wo_dst rfl (opR_call ?_) | refine wo_nodst (opR_call ?_) | refine wo_dst rfl (opR_pure ?_) | refine wo_nodst (opR_pure ?_)
    | refine give_ret ?_ | refine give_end ?_)
  refine (wp _).mono ?_
  rintro _ h2 ⟨hp, g2⟩; have n2 := g2.1; have k2 := g2.2; try simp only [next_new, next_set] at n2 k2
  rcases hp with ⟨h0, rfl⟩ | ⟨h0, d, e, w, hd, hnn, hval, hle, ⟨hE, rfl, hin⟩ | ⟨hE, rfl⟩⟩
  · exact absurd h0 hXn0
  · obtain ⟨aw, cw, rfl, q⟩ := id hin
    have okd := placeE_ok.1 hE
    have okc := okC_sl aw d.length cw
    clear hXn hXn0 wm wp
    repeat' (first
    | ((with_reducible first | refine optP_id ?_ | refine condP_id ?_ | refine resP_id ?_ | refine callT_of ?_); conv => { arg 1; simp (disch := first | assumption | omega) only [push_cast, ↓reduceIte, reduceIte, Nat.reduceEqDiff, Nat.reduceAdd, Nat.reduceSub, Nat.reduceMul, Nat.reduceBEq, Int.reduceNeg, k1, k2] }; first | ((with_reducible refine optP_id ?_); refine optP_some ?_) | ((with_reducible refine condP_id ?_); first | refine qcy ?_ | refine qcx ?_ | refine qco ?_ | refine condP_decn (fun hc => ?_) (fun hc => ?_) | refine condP_dec (fun hc => ?_) (fun hc => ?_) | refine qct ?_ | refine qcf ?_ | refine condP_bool (fun hc => ?_) (fun hc => ?_)) | ((with_reducible refine resP_id ?_); refine resP_one ?_) | ((with_reducible refine callT_to ?_); refine callP_plain ?_))
    | refine wk_seq ?_ | refine wk_region ?_ | refine wk_skip ?_ | refine wo_nil ?_ | refine wk_cond ?_ | refine wk_ret ?_ | refine wk_nil ?_ | refine wo_dst rfl (opR_call ?_) | refine wo_nodst (opR_call ?_) | refine wo_dst rfl (opR_pure ?_) | refine wo_nodst (opR_pure ?_)
    | refine give_ret ?_ | refine give_end ?_)
    exact ⟨⟨d, _, aw, cw, rfl, IIn.setQ (C := [.slice none 0 0, .int .i64 0]) (e' := 41) (rw' := true) (SlIn.gr hin (by (repeat (first | exact Gr.refl _ | assumption | (refine Gr.trans ?_ (by assumption)) | refine Gr.set ?_ (by first | exact Nat.le_refl _ | omega | (simp only [next_new, next_set]; omega)) _ | refine Gr.new ?_ _)))) (by simp (disch := first | assumption | omega) only [push_cast, ↓reduceIte, reduceIte, Nat.reduceEqDiff, Nat.reduceAdd, Nat.reduceSub, Nat.reduceMul, Nat.reduceBEq, Int.reduceNeg, k2, k1]) (by decide), okc, hd, hnn, okd, e, hval, rfl⟩, by (repeat (first | exact Gr.refl _ | assumption | (refine Gr.trans ?_ (by assumption)) | refine Gr.set ?_ (by first | exact Nat.le_refl _ | omega | (simp only [next_new, next_set]; omega)) _ | refine Gr.new ?_ _))⟩
  · exfalso
    have hl2 := place_len hd hnn hval hXn
    exact hE ((placeE_zero (s := (after : Int) + (e : Int)) hd hnn (by omega) (by omega)).1 (by omega))
end Go.Proofs.YtelepfablohdmaaGreatDoor
/- Contract: contributions. -/
namespace Go.Proofs.YtelepfablohdmaaGreatDoor
open Go.Ev
theorem bs36_1 (a : Option Addr) (n c : Nat) (s : Int) : buildSliceA Tryz.prog 36 1 [(0, .agg #[.slice a n c, .int .i64 s])] = some (.cells [.slice a n c, .int .i64 s] 41 true, fun k => .slice (some ⟨k, 0, none⟩) 1 (EX + 1)) := by kernel_rfl
attribute [push_cast] bs36_1
theorem ap36 (h : AHeap) (b : Option Addr) (n c : Nat) (x : Value) : appendOp Tryz.prog h 36 36 (.slice b n c) x = appendS h 41 2 32 b n c x := by kernel_rfl
set_option maxRecDepth 100000 in
set_option maxHeartbeats 8000000 in
theorem contribs_w (X : Nat) (b : List Int) (hb : digs b) (lb : b.length ≤ 16) (hX0 : X ≠ 0) (hX : X < 60 ^ 15) (vb : Value) (h : AHeap) (hv : IIn h vb b) :
    Wc pr (.func 76) [vb, .func (.func 77) #[numV X] #[]] h fun r h' => (∃ W L bo, r = .slice (ownB W bo) W.length W.length ∧ (W ≠ [] → h.next ≤ bo ∧ bo < h'.next ∧ h'.get bo = some (.cells (flatE encP W) 41 true)) ∧ els h' W L ∧ cInv X 0 (valN b) (2 * b.length) L) ∧ Gr h h' := by
  have wc := fun n a hn hn2 ha H => contrib_w X n a hX0 hX hn hn2 ha H
  rw [num_cells] at *
  clear hX
  obtain ⟨ab, cb, rfl, hcb, hm⟩ := id hv
  refine wc_func Tryz.func76 rfl rfl rfl rfl ?_
  generalize hCX : ints .u8 (numD X) = CX at *
  repeat' (first
    | ((with_reducible first | refine optP_id ?_ | refine condP_id ?_ | refine resP_id ?_ | refine callT_of ?_); conv => { arg 1; simp (disch := first | assumption | omega) only [push_cast, ↓reduceIte, reduceIte, Nat.reduceEqDiff, Nat.reduceAdd, Nat.reduceSub, Nat.reduceMul, Nat.reduceBEq, Int.reduceNeg] }; first | ((with_reducible refine optP_id ?_); refine optP_some ?_) | ((with_reducible refine condP_id ?_); first | refine qcy ?_ | refine qcx ?_ | refine qco ?_ | refine condP_decn (fun hc => ?_) (fun hc => ?_) | refine condP_dec (fun hc => ?_) (fun hc => ?_) | refine qct ?_ | refine qcf ?_ | refine condP_bool (fun hc => ?_) (fun hc => ?_)) | ((with_reducible refine resP_id ?_); refine resP_one ?_) | ((with_reducible refine callT_to ?_); first | refine callP_plain ?_ | refine callP_yield ?_ | (refine callP_func ?_; conv => { arg 3; simp only [push_cast] })))
    | refine wk_seq ?_ | refine wk_region ?_ | refine wk_block ?_ | refine wk_inBlock ?_ | refine wk_skip ?_ | refine wo_nil ?_ | refine wk_exit ?_ | refine exitK_code ?_ | refine exitK_hit ?_ | refine exitK_miss rfl ?_ | refine exitK_inLoop ?_ | refine wk_cond ?_ | refine wk_ret ?_ | refine wk_nil ?_ | refine wo_dst rfl (opR_call ?_) | refine wo_nodst (opR_call ?_) | refine wo_dst rfl (opR_pure ?_) | refine wo_nodst (opR_pure ?_)
    | refine give_ret ?_ | refine give_end ?_)
  refine wk_loop (fun n E H => ∃ (i bo : Nat) (W : List (Value × Int)) (L : List (List Int × Int)), n = b.length - i ∧ i ≤ b.length ∧ Gr h H ∧ (W ≠ [] → h.next ≤ bo ∧ bo < H.next ∧ H.get bo = some (.cells (flatE encP W) 41 true)) ∧ els H W L ∧ cInv X (valN (b.drop i)) (valN b) (2 * i) L ∧ E.look 0 top = .slice ab b.length cb ∧ E.look 1 top = .func (.func 77) #[.agg CX.toArray] #[] ∧ E.look 5 top = .slice (ownB W bo) W.length W.length ∧ E.look 10 top = .slice ab b.length cb ∧ E.look 11 top = .int .i64 (b.length : Int) ∧ E.look 12 top = .int .i64 (i : Int)) b.length
    ⟨0, 0, [], [], rfl, by omega, by (repeat (first | exact Gr.refl _ | assumption | (refine Gr.trans ?_ (by assumption)) | refine Gr.set ?_ (by first | exact Nat.le_refl _ | omega | (simp only [next_new, next_set]; omega)) _ | refine Gr.new ?_ _)), fun hn => absurd rfl hn, els_nil _, cInv_nil _ _, by simp (disch := first | assumption | omega) only [push_cast, ↓reduceIte, reduceIte, Nat.reduceEqDiff, Nat.reduceAdd, Nat.reduceSub, Nat.reduceMul, Nat.reduceBEq, Int.reduceNeg], by simp (disch := first | assumption | omega) only [push_cast, ↓reduceIte, reduceIte, Nat.reduceEqDiff, Nat.reduceAdd, Nat.reduceSub, Nat.reduceMul, Nat.reduceBEq, Int.reduceNeg], by simp (disch := first | assumption | omega) only [push_cast, ↓reduceIte, reduceIte, Nat.reduceEqDiff, Nat.reduceAdd, Nat.reduceSub, Nat.reduceMul, Nat.reduceBEq, Int.reduceNeg, ownB_nil, List.length_nil], by simp (disch := first | assumption | omega) only [push_cast, ↓reduceIte, reduceIte, Nat.reduceEqDiff, Nat.reduceAdd, Nat.reduceSub, Nat.reduceMul, Nat.reduceBEq, Int.reduceNeg], by simp (disch := first | assumption | omega) only [push_cast, ↓reduceIte, reduceIte, Nat.reduceEqDiff, Nat.reduceAdd, Nat.reduceSub, Nat.reduceMul, Nat.reduceBEq, Int.reduceNeg], by simp (disch := first | assumption | omega) only [push_cast, ↓reduceIte, reduceIte, Nat.reduceEqDiff, Nat.reduceAdd, Nat.reduceSub, Nat.reduceMul, Nat.reduceBEq, Int.reduceNeg, Int.natCast_zero]⟩ ?_
  rintro n E H ⟨i, bo, W, L, rfl, hi, gr, hB, hel, hci, e0, e1, e5, e10, e11, e12⟩ next
  have gn := gr.1
  by_cases hlt : i < b.length
  · have ilt : (i : Int) < (b.length : Int) := by omega
    obtain ⟨bb, offb, allb, rwb, rfl, hbb, hgb, htb⟩ := hm (by intro hh; rw [hh] at hlt; exact absurd hlt (Nat.not_lt_zero _))
    have hgb' : H.get bb = some (.cells allb 3 rwb) := by rw [gr.2 bb hbb]; exact hgb
    have c1 := at_cut1 _ _ _ (htb _ hlt)
    rw [Nat.mul_one] at c1
    have hdig := hb _ (List.getElem_mem hlt)
    have hdr := valN_drop hlt
    obtain ⟨d, hd⟩ : ∃ d : Nat, b[i] = (d : Int) := ⟨b[i].toNat, by omega⟩
    rw [hd] at c1 hdig hdr
    rw [Int.toNat_natCast] at hdr
    have ha0 : b.length - 1 - i ≤ 20 := by omega
    have hsub : (b.length : Int) - 1 - (i : Int) = ((b.length - 1 - i : Nat) : Int) := by omega
    generalize b.length - 1 - i = a at *
    repeat' (first
    | ((with_reducible first | refine optP_id ?_ | refine condP_id ?_ | refine resP_id ?_ | refine callT_of ?_); conv => { arg 1; simp (disch := first | assumption | omega) only [push_cast, ↓reduceIte, reduceIte, Nat.reduceEqDiff, Nat.reduceAdd, Nat.reduceSub, Nat.reduceMul, Nat.reduceBEq, Int.reduceNeg, e0, e1, e5, e10, e11, e12, hgb', c1, Nat.mul_one] }; first | ((with_reducible refine optP_id ?_); refine optP_some ?_) | ((with_reducible refine condP_id ?_); first | refine qcy ?_ | refine qcx ?_ | refine qco ?_ | refine condP_decn (fun hc => ?_) (fun hc => ?_) | refine condP_dec (fun hc => ?_) (fun hc => ?_) | refine qct ?_ | refine qcf ?_ | refine condP_bool (fun hc => ?_) (fun hc => ?_)) | ((with_reducible refine resP_id ?_); refine resP_one ?_) | ((with_reducible refine callT_to ?_); first | refine callP_plain ?_ | refine callP_yield ?_ | (refine callP_func ?_; conv => { arg 3; simp only [push_cast] })))
    | refine wk_seq ?_ | refine wk_region ?_ | refine wk_block ?_ | refine wk_inBlock ?_ | refine wk_skip ?_ | refine wo_nil ?_ | refine wk_exit ?_ | refine exitK_code ?_ | refine exitK_hit ?_ | refine exitK_miss rfl ?_ | refine exitK_inLoop ?_ | refine wk_cond ?_ | refine wk_ret ?_ | refine wk_nil ?_ | refine wo_dst rfl (opR_call ?_) | refine wo_nodst (opR_call ?_) | refine wo_dst rfl (opR_pure ?_) | refine wo_nodst (opR_pure ?_)
    | refine give_ret ?_ | refine give_end ?_)
    refine (rowsof_w d (by omega) _).mono ?_
    rintro _ h2 ⟨⟨hin, hok⟩, g2⟩; have n2 := g2.1; have k2 := g2.2; try simp only [next_new, next_set] at n2 k2
    obtain ⟨ar, cr, rfl, hcr, hmr⟩ := id hin
    have hRl : ((rowsD d).map Int.ofNat).length = (rowsD d).length := List.length_map _
    have hR2 := rowsD_len d
    have hRs := rowsD_sum d
    have hRm := fun n => @rowsD_mem d n
    rw [← hRs] at hdr
    rw [hdr] at hci
    generalize rowsD d = R at *
    have hRI : ∀ q (h1 : q < (R.map Int.ofNat).length) (h2 : q < R.length), (R.map Int.ofNat)[q] = ((R[q] : Nat) : Int) := fun q h1 h2 => by rw [List.getElem_map]; rfl
    generalize R.map Int.ofNat = RI at *
    repeat' (first
    | ((with_reducible first | refine optP_id ?_ | refine condP_id ?_ | refine resP_id ?_ | refine callT_of ?_); conv => { arg 1; simp (disch := first | assumption | omega) only [push_cast, ↓reduceIte, reduceIte, Nat.reduceEqDiff, Nat.reduceAdd, Nat.reduceSub, Nat.reduceMul, Nat.reduceBEq, Int.reduceNeg, e0, e1, e5, e10, e11, e12] }; first | ((with_reducible refine optP_id ?_); refine optP_some ?_) | ((with_reducible refine condP_id ?_); first | refine qcy ?_ | refine qcx ?_ | refine qco ?_ | refine condP_decn (fun hc => ?_) (fun hc => ?_) | refine condP_dec (fun hc => ?_) (fun hc => ?_) | refine qct ?_ | refine qcf ?_ | refine condP_bool (fun hc => ?_) (fun hc => ?_)) | ((with_reducible refine resP_id ?_); refine resP_one ?_) | ((with_reducible refine callT_to ?_); first | refine callP_plain ?_ | refine callP_yield ?_ | (refine callP_func ?_; conv => { arg 3; simp only [push_cast] })))
    | refine wk_seq ?_ | refine wk_region ?_ | refine wk_block ?_ | refine wk_inBlock ?_ | refine wk_skip ?_ | refine wo_nil ?_ | refine wk_exit ?_ | refine exitK_code ?_ | refine exitK_hit ?_ | refine exitK_miss rfl ?_ | refine exitK_inLoop ?_ | refine wk_cond ?_ | refine wk_ret ?_ | refine wk_nil ?_ | refine wo_dst rfl (opR_call ?_) | refine wo_nodst (opR_call ?_) | refine wo_dst rfl (opR_pure ?_) | refine wo_nodst (opR_pure ?_)
    | refine give_ret ?_ | refine give_end ?_)
    refine wk_loop (fun n E H => ∃ (q bo : Nat) (W : List (Value × Int)) (L : List (List Int × Int)), n = RI.length - q ∧ q ≤ RI.length ∧ Gr h H ∧ h2.next ≤ H.next ∧ IIn H (.slice ar RI.length cr) RI ∧ (W ≠ [] → h.next ≤ bo ∧ bo < H.next ∧ H.get bo = some (.cells (flatE encP W) 41 true)) ∧ els H W L ∧ cInv X ((R.drop q).sum * 60 ^ a + valN (b.drop (i + 1))) (valN b) (2 * i + q) L ∧ E.look 0 top = .slice (some ⟨bb, offb, none⟩) b.length cb ∧ E.look 1 top = .func (.func 77) #[.agg CX.toArray] #[] ∧ E.look 5 top = .slice (ownB W bo) W.length W.length ∧ E.look 6 top = .int .i64 (i : Int) ∧ E.look 10 top = .slice (some ⟨bb, offb, none⟩) b.length cb ∧ E.look 11 top = .int .i64 (b.length : Int) ∧ E.look 12 top = .int .i64 (i : Int) ∧ E.look 18 top = .slice ar RI.length cr ∧ E.look 19 top = .int .i64 (RI.length : Int) ∧ E.look 20 top = .int .i64 (q : Int)) RI.length
      ⟨0, bo, W, L, rfl, by omega, by (repeat (first | exact Gr.refl _ | assumption | (refine Gr.trans ?_ (by assumption)) | refine Gr.set ?_ (by first | exact Nat.le_refl _ | omega | (simp only [next_new, next_set]; omega)) _ | refine Gr.new ?_ _)), by omega, hin, fun hn => ⟨(hB hn).1, by have := (hB hn).2.1; omega, by rw [k2 _ (hB hn).2.1]; exact (hB hn).2.2⟩, hel.gr g2, by rw [List.drop_zero]; exact hci, by simp (disch := first | assumption | omega) only [push_cast, ↓reduceIte, reduceIte, Nat.reduceEqDiff, Nat.reduceAdd, Nat.reduceSub, Nat.reduceMul, Nat.reduceBEq, Int.reduceNeg, e0], by simp (disch := first | assumption | omega) only [push_cast, ↓reduceIte, reduceIte, Nat.reduceEqDiff, Nat.reduceAdd, Nat.reduceSub, Nat.reduceMul, Nat.reduceBEq, Int.reduceNeg, e1], by simp (disch := first | assumption | omega) only [push_cast, ↓reduceIte, reduceIte, Nat.reduceEqDiff, Nat.reduceAdd, Nat.reduceSub, Nat.reduceMul, Nat.reduceBEq, Int.reduceNeg, e5], by simp (disch := first | assumption | omega) only [push_cast, ↓reduceIte, reduceIte, Nat.reduceEqDiff, Nat.reduceAdd, Nat.reduceSub, Nat.reduceMul, Nat.reduceBEq, Int.reduceNeg], by simp (disch := first | assumption | omega) only [push_cast, ↓reduceIte, reduceIte, Nat.reduceEqDiff, Nat.reduceAdd, Nat.reduceSub, Nat.reduceMul, Nat.reduceBEq, Int.reduceNeg, e10], by simp (disch := first | assumption | omega) only [push_cast, ↓reduceIte, reduceIte, Nat.reduceEqDiff, Nat.reduceAdd, Nat.reduceSub, Nat.reduceMul, Nat.reduceBEq, Int.reduceNeg, e11], by simp (disch := first | assumption | omega) only [push_cast, ↓reduceIte, reduceIte, Nat.reduceEqDiff, Nat.reduceAdd, Nat.reduceSub, Nat.reduceMul, Nat.reduceBEq, Int.reduceNeg, e12], by simp (disch := first | assumption | omega) only [push_cast, ↓reduceIte, reduceIte, Nat.reduceEqDiff, Nat.reduceAdd, Nat.reduceSub, Nat.reduceMul, Nat.reduceBEq, Int.reduceNeg], by simp (disch := first | assumption | omega) only [push_cast, ↓reduceIte, reduceIte, Nat.reduceEqDiff, Nat.reduceAdd, Nat.reduceSub, Nat.reduceMul, Nat.reduceBEq, Int.reduceNeg], by simp (disch := first | assumption | omega) only [push_cast, ↓reduceIte, reduceIte, Nat.reduceEqDiff, Nat.reduceAdd, Nat.reduceSub, Nat.reduceMul, Nat.reduceBEq, Int.reduceNeg, Int.natCast_zero]⟩ ?_
    clear e0 e1 e5 e10 e11 e12 hB hel hci
    rintro n E H3 ⟨q, bo, W, L, rfl, hq, gr3, hn3, hin3, hB, hel, hci, e0, e1, e5, e6, e10, e11, e12, e18, e19, e20⟩ next2
    have gn3 := gr3.1
    have hWl : W.length ≤ 100 := by have := hci.1; have := hel.1; omega
    by_cases hlt2 : q < RI.length
    · have ilt2 : (q : Int) < (RI.length : Int) := by omega
      obtain ⟨a', c', hac, hcr3, hmr3⟩ := id hin3
      cases hac
      obtain ⟨br, offr, allr, rwr, rfl, hbr, hgr, htr⟩ := hmr3 (by intro hh; rw [hh] at hlt2; exact absurd hlt2 (Nat.not_lt_zero _))
      have c2 := at_cut1 _ _ _ (htr _ hlt2)
      rw [Nat.mul_one, hRI q hlt2 (by omega)] at c2
      have hds := drop_sum (l := R) (q := q) (by omega)
      have hmem := hRm _ (List.getElem_mem (l := R) (n := q) (by omega))
      rw [hds] at hci
      generalize R[q] = m at *
      repeat' (first
    | ((with_reducible first | refine optP_id ?_ | refine condP_id ?_ | refine resP_id ?_ | refine callT_of ?_); conv => { arg 1; simp (disch := first | assumption | omega) only [push_cast, ↓reduceIte, reduceIte, Nat.reduceEqDiff, Nat.reduceAdd, Nat.reduceSub, Nat.reduceMul, Nat.reduceBEq, Int.reduceNeg, e0, e1, e5, e6, e10, e11, e12, e18, e19, e20, hgr, c2, hsub, Nat.mul_one] }; first | ((with_reducible refine optP_id ?_); refine optP_some ?_) | ((with_reducible refine condP_id ?_); first | refine qcy ?_ | refine qcx ?_ | refine qco ?_ | refine condP_decn (fun hc => ?_) (fun hc => ?_) | refine condP_dec (fun hc => ?_) (fun hc => ?_) | refine qct ?_ | refine qcf ?_ | refine condP_bool (fun hc => ?_) (fun hc => ?_)) | ((with_reducible refine resP_id ?_); refine resP_one ?_) | ((with_reducible refine callT_to ?_); first | refine callP_plain ?_ | refine callP_yield ?_ | (refine callP_func ?_; conv => { arg 3; simp only [push_cast] })))
    | refine wk_seq ?_ | refine wk_region ?_ | refine wk_block ?_ | refine wk_inBlock ?_ | refine wk_skip ?_ | refine wo_nil ?_ | refine wk_exit ?_ | refine exitK_code ?_ | refine exitK_hit ?_ | refine exitK_miss rfl ?_ | refine exitK_inLoop ?_ | refine wk_cond ?_ | refine wk_ret ?_ | refine wk_nil ?_ | refine wo_dst rfl (opR_call ?_) | refine wo_nodst (opR_call ?_) | refine wo_dst rfl (opR_pure ?_) | refine wo_nodst (opR_pure ?_)
    | refine give_ret ?_ | refine give_end ?_)
      refine (wc m a hmem.1 (by omega) ha0 _).mono ?_
      rintro _ h4 ⟨⟨l, s, al, cl, rfl, hil, hol, hcl⟩, g4⟩; have n4 := g4.1; have k4 := g4.2; try simp only [next_new, next_set] at n4 k4
      repeat' (first
    | ((with_reducible first | refine optP_id ?_ | refine condP_id ?_ | refine resP_id ?_ | refine callT_of ?_); conv => { arg 1; simp (disch := first | assumption | omega) only [push_cast, ↓reduceIte, reduceIte, Nat.reduceEqDiff, Nat.reduceAdd, Nat.reduceSub, Nat.reduceMul, Nat.reduceBEq, Int.reduceNeg, e0, e1, e5, e6, e10, e11, e12, e18, e19, e20] }; first | ((with_reducible refine optP_id ?_); refine optP_some ?_) | ((with_reducible refine condP_id ?_); first | refine qcy ?_ | refine qcx ?_ | refine qco ?_ | refine condP_decn (fun hc => ?_) (fun hc => ?_) | refine condP_dec (fun hc => ?_) (fun hc => ?_) | refine qct ?_ | refine qcf ?_ | refine condP_bool (fun hc => ?_) (fun hc => ?_)) | ((with_reducible refine resP_id ?_); refine resP_one ?_) | ((with_reducible refine callT_to ?_); first | refine callP_plain ?_ | refine callP_yield ?_ | (refine callP_func ?_; conv => { arg 3; simp only [push_cast] })))
    | refine wk_seq ?_ | refine wk_region ?_ | refine wk_block ?_ | refine wk_inBlock ?_ | refine wk_skip ?_ | refine wo_nil ?_ | refine wk_exit ?_ | refine exitK_code ?_ | refine exitK_hit ?_ | refine exitK_miss rfl ?_ | refine exitK_inLoop ?_ | refine wk_cond ?_ | refine wk_ret ?_ | refine wk_nil ?_ | refine wo_dst rfl (opR_call ?_) | refine wo_nodst (opR_call ?_) | refine wo_dst rfl (opR_pure ?_) | refine wo_nodst (opR_pure ?_)
    | refine give_ret ?_ | refine give_end ?_)
      conv => { arg 1; simp (disch := first | assumption | omega) only [push_cast, ↓reduceIte, reduceIte, Nat.reduceEqDiff, Nat.reduceAdd, Nat.reduceSub, Nat.reduceMul, Nat.reduceBEq, Int.reduceNeg, ap36] }
      refine optP_one1 (x := (.slice al l.length cl, s)) (e' := 41) (rw' := true) encP_len rfl (by omega) (by omega) (fun hn => by obtain ⟨q0, q1, q2⟩ := hB hn; simp (disch := first | assumption | omega) only [push_cast, ↓reduceIte, reduceIte, Nat.reduceEqDiff, Nat.reduceAdd, Nat.reduceSub, Nat.reduceMul, Nat.reduceBEq, Int.reduceNeg, k4]; exact q2) (by unfold encP; simp (disch := first | assumption | omega) only [push_cast, ↓reduceIte, reduceIte, Nat.reduceEqDiff, Nat.reduceAdd, Nat.reduceSub, Nat.reduceMul, Nat.reduceBEq, Int.reduceNeg]) ?_
      intro H5 n5 new5 keep5
      simp only [next_new] at n5 new5 keep5
      have keep : ∀ c, c < h4.next → (W ≠ [] → c ≠ bo) → H5.get c = h4.get c := fun c hc hne => by rw [keep5 c (by omega) hne]; simp (disch := first | assumption | omega) only [push_cast, ↓reduceIte, reduceIte, Nat.reduceEqDiff, Nat.reduceAdd, Nat.reduceSub, Nat.reduceMul, Nat.reduceBEq, Int.reduceNeg]
      have hB4 : W ≠ [] → h4.get bo = some (.cells (flatE encP W) 41 true) := fun hn => by rw [k4 _ (hB hn).2.1]; exact (hB hn).2.2
      have hel5 := (hel.keep (H' := H5) (by omega) (fun c hc hne => by rw [keep c (by omega) hne, k4 _ hc]) (fun hn => (hB hn).2.2) (by decide)).snoc (s := s) (hil.keep (H' := H5) (by omega) keep hB4 (by decide)) hol
      have hg5 : Gr h H5 := ⟨by omega, fun c hc => by rw [keep c (by omega) (fun hn => by have := (hB hn).1; omega), k4 _ (by omega)]; exact gr3.2 c hc⟩
      have hin5 := hin3.keep (H' := H5) (by omega) (fun c hc hne => by rw [keep c (by omega) hne, k4 _ hc]) (fun hn => (hB hn).2.2) (by decide)
      repeat' (first
    | ((with_reducible first | refine optP_id ?_ | refine condP_id ?_ | refine resP_id ?_ | refine callT_of ?_); conv => { arg 1; simp (disch := first | assumption | omega) only [push_cast, ↓reduceIte, reduceIte, Nat.reduceEqDiff, Nat.reduceAdd, Nat.reduceSub, Nat.reduceMul, Nat.reduceBEq, Int.reduceNeg, e0, e1, e5, e6, e10, e11, e12, e18, e19, e20] }; first | ((with_reducible refine optP_id ?_); refine optP_some ?_) | ((with_reducible refine condP_id ?_); first | refine qcy ?_ | refine qcx ?_ | refine qco ?_ | refine condP_decn (fun hc => ?_) (fun hc => ?_) | refine condP_dec (fun hc => ?_) (fun hc => ?_) | refine qct ?_ | refine qcf ?_ | refine condP_bool (fun hc => ?_) (fun hc => ?_)) | ((with_reducible refine resP_id ?_); refine resP_one ?_) | ((with_reducible refine callT_to ?_); first | refine callP_plain ?_ | refine callP_yield ?_ | (refine callP_func ?_; conv => { arg 3; simp only [push_cast] })))
    | refine wk_seq ?_ | refine wk_region ?_ | refine wk_block ?_ | refine wk_inBlock ?_ | refine wk_skip ?_ | refine wo_nil ?_ | refine wk_exit ?_ | refine exitK_code ?_ | refine exitK_hit ?_ | refine exitK_miss rfl ?_ | refine exitK_inLoop ?_ | refine wk_cond ?_ | refine wk_ret ?_ | refine wk_nil ?_ | refine wo_dst rfl (opR_call ?_) | refine wo_nodst (opR_call ?_) | refine wo_dst rfl (opR_pure ?_) | refine wo_nodst (opR_pure ?_)
    | refine give_ret ?_ | refine give_end ?_)
      exact next2 (RI.length - (q + 1)) _ _ (by omega) ⟨q + 1, h4.next + 1, W ++ [(.slice al l.length cl, s)], L ++ [(l, s)], rfl, by omega, hg5, by omega, hin5, fun _ => ⟨by omega, by omega, new5⟩, hel5, by
        have := cInv_snoc (n := m) (a := a) (rest := (R.drop (q + 1)).sum * 60 ^ a + valN (b.drop (i + 1))) (l := l) (s := s) (by rw [← Nat.add_assoc, ← Nat.add_mul]; exact hci) hcl
        exact this, by simp (disch := first | assumption | omega) only [push_cast, ↓reduceIte, reduceIte, Nat.reduceEqDiff, Nat.reduceAdd, Nat.reduceSub, Nat.reduceMul, Nat.reduceBEq, Int.reduceNeg, e0], by simp (disch := first | assumption | omega) only [push_cast, ↓reduceIte, reduceIte, Nat.reduceEqDiff, Nat.reduceAdd, Nat.reduceSub, Nat.reduceMul, Nat.reduceBEq, Int.reduceNeg, e1], by simp (disch := first | assumption | omega) only [push_cast, ↓reduceIte, reduceIte, Nat.reduceEqDiff, Nat.reduceAdd, Nat.reduceSub, Nat.reduceMul, Nat.reduceBEq, Int.reduceNeg], by simp (disch := first | assumption | omega) only [push_cast, ↓reduceIte, reduceIte, Nat.reduceEqDiff, Nat.reduceAdd, Nat.reduceSub, Nat.reduceMul, Nat.reduceBEq, Int.reduceNeg, e6], by simp (disch := first | assumption | omega) only [push_cast, ↓reduceIte, reduceIte, Nat.reduceEqDiff, Nat.reduceAdd, Nat.reduceSub, Nat.reduceMul, Nat.reduceBEq, Int.reduceNeg, e10], by simp (disch := first | assumption | omega) only [push_cast, ↓reduceIte, reduceIte, Nat.reduceEqDiff, Nat.reduceAdd, Nat.reduceSub, Nat.reduceMul, Nat.reduceBEq, Int.reduceNeg, e11], by simp (disch := first | assumption | omega) only [push_cast, ↓reduceIte, reduceIte, Nat.reduceEqDiff, Nat.reduceAdd, Nat.reduceSub, Nat.reduceMul, Nat.reduceBEq, Int.reduceNeg, e12], by simp (disch := first | assumption | omega) only [push_cast, ↓reduceIte, reduceIte, Nat.reduceEqDiff, Nat.reduceAdd, Nat.reduceSub, Nat.reduceMul, Nat.reduceBEq, Int.reduceNeg, e18], by simp (disch := first | assumption | omega) only [push_cast, ↓reduceIte, reduceIte, Nat.reduceEqDiff, Nat.reduceAdd, Nat.reduceSub, Nat.reduceMul, Nat.reduceBEq, Int.reduceNeg, e19], by simp (disch := first | assumption | omega) only [push_cast, ↓reduceIte, reduceIte, Nat.reduceEqDiff, Nat.reduceAdd, Nat.reduceSub, Nat.reduceMul, Nat.reduceBEq, Int.reduceNeg, Int.natCast_add, Int.natCast_one]⟩
    · have ilt2 : ¬ (q : Int) < (RI.length : Int) := by omega
      obtain rfl : q = RI.length := by omega
      rw [show R.drop RI.length = [] by rw [hRl]; exact List.drop_length, List.sum_nil, Nat.zero_mul, Nat.zero_add] at hci
      repeat' (first
    | ((with_reducible first | refine optP_id ?_ | refine condP_id ?_ | refine resP_id ?_ | refine callT_of ?_); conv => { arg 1; simp (disch := first | assumption | omega) only [push_cast, ↓reduceIte, reduceIte, Nat.reduceEqDiff, Nat.reduceAdd, Nat.reduceSub, Nat.reduceMul, Nat.reduceBEq, Int.reduceNeg, e0, e1, e5, e6, e10, e11, e12, e18, e19, e20] }; first | ((with_reducible refine optP_id ?_); refine optP_some ?_) | ((with_reducible refine condP_id ?_); first | refine qcy ?_ | refine qcx ?_ | refine qco ?_ | refine condP_decn (fun hc => ?_) (fun hc => ?_) | refine condP_dec (fun hc => ?_) (fun hc => ?_) | refine qct ?_ | refine qcf ?_ | refine condP_bool (fun hc => ?_) (fun hc => ?_)) | ((with_reducible refine resP_id ?_); refine resP_one ?_) | ((with_reducible refine callT_to ?_); first | refine callP_plain ?_ | refine callP_yield ?_ | (refine callP_func ?_; conv => { arg 3; simp only [push_cast] })))
    | refine wk_seq ?_ | refine wk_region ?_ | refine wk_block ?_ | refine wk_inBlock ?_ | refine wk_skip ?_ | refine wo_nil ?_ | refine wk_exit ?_ | refine exitK_code ?_ | refine exitK_hit ?_ | refine exitK_miss rfl ?_ | refine exitK_inLoop ?_ | refine wk_cond ?_ | refine wk_ret ?_ | refine wk_nil ?_ | refine wo_dst rfl (opR_call ?_) | refine wo_nodst (opR_call ?_) | refine wo_dst rfl (opR_pure ?_) | refine wo_nodst (opR_pure ?_)
    | refine give_ret ?_ | refine give_end ?_)
      exact next (b.length - (i + 1)) _ _ (by omega) ⟨i + 1, bo, W, L, rfl, by omega, gr3, hB, hel, cInv_mono hci (by omega), by simp (disch := first | assumption | omega) only [push_cast, ↓reduceIte, reduceIte, Nat.reduceEqDiff, Nat.reduceAdd, Nat.reduceSub, Nat.reduceMul, Nat.reduceBEq, Int.reduceNeg, e0], by simp (disch := first | assumption | omega) only [push_cast, ↓reduceIte, reduceIte, Nat.reduceEqDiff, Nat.reduceAdd, Nat.reduceSub, Nat.reduceMul, Nat.reduceBEq, Int.reduceNeg, e1], by simp (disch := first | assumption | omega) only [push_cast, ↓reduceIte, reduceIte, Nat.reduceEqDiff, Nat.reduceAdd, Nat.reduceSub, Nat.reduceMul, Nat.reduceBEq, Int.reduceNeg, e5], by simp (disch := first | assumption | omega) only [push_cast, ↓reduceIte, reduceIte, Nat.reduceEqDiff, Nat.reduceAdd, Nat.reduceSub, Nat.reduceMul, Nat.reduceBEq, Int.reduceNeg, e10], by simp (disch := first | assumption | omega) only [push_cast, ↓reduceIte, reduceIte, Nat.reduceEqDiff, Nat.reduceAdd, Nat.reduceSub, Nat.reduceMul, Nat.reduceBEq, Int.reduceNeg, e11], by simp (disch := first | assumption | omega) only [push_cast, ↓reduceIte, reduceIte, Nat.reduceEqDiff, Nat.reduceAdd, Nat.reduceSub, Nat.reduceMul, Nat.reduceBEq, Int.reduceNeg, Int.natCast_add, Int.natCast_one]⟩
  · have ilt : ¬ (i : Int) < (b.length : Int) := by omega
    obtain rfl : i = b.length := by omega
    rw [List.drop_length] at hci
    repeat' (first
    | ((with_reducible first | refine optP_id ?_ | refine condP_id ?_ | refine resP_id ?_ | refine callT_of ?_); conv => { arg 1; simp (disch := first | assumption | omega) only [push_cast, ↓reduceIte, reduceIte, Nat.reduceEqDiff, Nat.reduceAdd, Nat.reduceSub, Nat.reduceMul, Nat.reduceBEq, Int.reduceNeg, e0, e1, e5, e10, e11, e12] }; first | ((with_reducible refine optP_id ?_); refine optP_some ?_) | ((with_reducible refine condP_id ?_); first | refine qcy ?_ | refine qcx ?_ | refine qco ?_ | refine condP_decn (fun hc => ?_) (fun hc => ?_) | refine condP_dec (fun hc => ?_) (fun hc => ?_) | refine qct ?_ | refine qcf ?_ | refine condP_bool (fun hc => ?_) (fun hc => ?_)) | ((with_reducible refine resP_id ?_); refine resP_one ?_) | ((with_reducible refine callT_to ?_); first | refine callP_plain ?_ | refine callP_yield ?_ | (refine callP_func ?_; conv => { arg 3; simp only [push_cast] })))
    | refine wk_seq ?_ | refine wk_region ?_ | refine wk_block ?_ | refine wk_inBlock ?_ | refine wk_skip ?_ | refine wo_nil ?_ | refine wk_exit ?_ | refine exitK_code ?_ | refine exitK_hit ?_ | refine exitK_miss rfl ?_ | refine exitK_inLoop ?_ | refine wk_cond ?_ | refine wk_ret ?_ | refine wk_nil ?_ | refine wo_dst rfl (opR_call ?_) | refine wo_nodst (opR_call ?_) | refine wo_dst rfl (opR_pure ?_) | refine wo_nodst (opR_pure ?_)
    | refine give_ret ?_ | refine give_end ?_)
    exact ⟨⟨W, L, bo, rfl, hB, hel, hci⟩, gr⟩
end Go.Proofs.YtelepfablohdmaaGreatDoor
namespace Go.Proofs.YtelepfablohdmaaGreatDoor
open Go.Ev
theorem pin_own {H : AHeap} {W : List (Value × Int)} {L : List (List Int × Int)} {bo : Nat} (hB : W ≠ [] → bo < H.next ∧ H.get bo = some (.cells (flatE encP W) 41 true)) (hW : W.length ≤ 1000) (h : els H W L) : PIn H (.slice (ownB W bo) W.length W.length) L :=
  ⟨W, h.1, own_in encP_len (by rw [(capLo_small (c := W.length) (by unfold EX; omega)).1]; exact Nat.le_refl _) (fun hn => (hB hn).1) (fun hn => ⟨true, (hB hn).2⟩), h.2⟩
set_option maxRecDepth 100000 in
set_option maxHeartbeats 8000000 in
theorem bt1_w (l b : List Int) (hl : valid l) (hl0 : l ≠ []) (ll : l.length ≤ 15) (hb : digs b) (lb : b.length ≤ 16) (pb pl pp : Nat) (vb vl : Value) (h : AHeap) (hgb : h.get pb = some (.cells [vb] 22 true)) (hgl : h.get pl = some (.cells [vl] 22 true)) (hgp : h.get pp = some (.cells [.slice none 0 0] 36 true)) (hpb : pb < h.next) (hpl : pl < h.next) (hpp : pp < h.next) (hib : IIn h vb b) (hil : IIn h vl l) (okb : okC vb = true) :
    Wc pr (.func 75) [.pointer (some ⟨pb, 0, none⟩), .pointer (some ⟨pl, 0, none⟩), .pointer (some ⟨pp, 0, none⟩)] h fun _ h' => ∃ W L bo, h'.get pp = some (.cells [.slice (ownB W bo) W.length W.length] 36 true) ∧ (W ≠ [] → h.next ≤ bo ∧ bo < h'.next ∧ h'.get bo = some (.cells (flatE encP W) 41 true)) ∧ els h' W L ∧ cInv (valN l) 0 (valN b) (2 * b.length) L ∧ h.next ≤ h'.next ∧ (∀ c, c < h.next → c ≠ pp → h'.get c = h.get c) := by
  have hX0 : valN l ≠ 0 := Nat.ne_of_gt (valN_pos hl hl0)
  have hX : valN l < 60 ^ 15 := Nat.lt_of_lt_of_le (valN_lt hl.1) (Nat.pow_le_pow_right (by decide) ll)
  have wn := fun H hi => numfrom_w l hl.1 0 (by omega) vl H hi
  rw [Nat.pow_zero, Nat.mul_one] at wn
  have wc := fun H hi => contribs_w (valN l) b hb lb hX0 hX vb H hi
  rw [num_cells] at wc wn
  clear hX hX0
  obtain ⟨ab, cb, rfl, _, _⟩ := id hib
  obtain ⟨al, cl, rfl, _, _⟩ := id hil
  refine wc_func Tryz.func75 rfl rfl rfl rfl ?_
  generalize hCX : ints .u8 (numD (valN l)) = CX at *
  repeat' (first
    | ((with_reducible first | refine optP_id ?_ | refine resP_id ?_ | refine callT_of ?_); conv => { arg 1; simp (disch := first | assumption | omega) only [push_cast, ↓reduceIte, reduceIte, Nat.reduceEqDiff, Nat.reduceAdd, Nat.reduceSub, Nat.reduceMul, Nat.reduceBEq, Int.reduceNeg, hgb, hgl] }; first | ((with_reducible refine optP_id ?_); refine optP_some ?_) | ((with_reducible refine resP_id ?_); refine resP_zero ?_) | ((with_reducible refine callT_to ?_); refine callP_plain ?_))
    | refine wk_seq ?_ | refine wk_region ?_ | refine wk_draw (by kernel_rfl) (by decide +kernel) ?_ | refine wk_drawn [(0, 4)] (by kernel_rfl) (by decide +kernel) ?_ | refine wo_nil ?_ | refine wk_nil ?_ | refine wo_dst rfl (opR_call ?_) | refine wo_nodst (opR_call ?_) | refine wo_dst rfl (opR_pure ?_) | refine wo_nodst (opR_pure ?_)
    | refine wd_dst rfl (opR_call ?_) | refine wd_nodst (opR_call ?_) | refine wd_dst rfl (opR_pick ?_) | refine wd_guard rfl rfl ?_ | refine wd_guardn rfl ?_ | refine wd_dst rfl (opR_pure ?_) | refine wd_nodst (opR_pure ?_) | refine opR_call ?_ | refine opR_pick ?_ | refine opR_pure ?_ | (refine wd_nil ?_; refine doneD rfl rfl ?_ ?_) | refine again_nil | refine again_cons ?_ ?_ | refine again_plain rfl rfl rfl ?_ | refine again_guard rfl rfl rfl rfl ?_ | exact same_undef | exact same_of rfl rfl | refine give_ret ?_ | refine give_end ?_)
  refine (wn _ hil).mono ?_
  rintro _ h1 ⟨rfl, g1⟩; have n1 := g1.1; have k1 := g1.2; try simp only [next_new, next_set] at n1 k1
  have hgb1 : h1.get pb = some (.cells [.slice ab b.length cb] 22 true) := by rw [k1 _ hpb]; exact hgb
  repeat' (first
    | ((with_reducible first | refine optP_id ?_ | refine resP_id ?_ | refine callT_of ?_); conv => { arg 1; simp (disch := first | assumption | omega) only [push_cast, ↓reduceIte, reduceIte, Nat.reduceEqDiff, Nat.reduceAdd, Nat.reduceSub, Nat.reduceMul, Nat.reduceBEq, Int.reduceNeg, k1, hgb, hgl] }; first | ((with_reducible refine optP_id ?_); refine optP_some ?_) | ((with_reducible refine resP_id ?_); refine resP_zero ?_) | ((with_reducible refine callT_to ?_); refine callP_plain ?_))
    | refine wk_seq ?_ | refine wk_region ?_ | refine wk_draw (by kernel_rfl) (by decide +kernel) ?_ | refine wk_drawn [(0, 4)] (by kernel_rfl) (by decide +kernel) ?_ | refine wo_nil ?_ | refine wk_nil ?_ | refine wo_dst rfl (opR_call ?_) | refine wo_nodst (opR_call ?_) | refine wo_dst rfl (opR_pure ?_) | refine wo_nodst (opR_pure ?_)
    | refine wd_dst rfl (opR_call ?_) | refine wd_nodst (opR_call ?_) | refine wd_dst rfl (opR_pick ?_) | refine wd_guard rfl rfl ?_ | refine wd_guardn rfl ?_ | refine wd_dst rfl (opR_pure ?_) | refine wd_nodst (opR_pure ?_) | refine opR_call ?_ | refine opR_pick ?_ | refine opR_pure ?_ | (refine wd_nil ?_; refine doneD rfl rfl ?_ ?_) | refine again_nil | refine again_cons ?_ ?_ | refine again_plain rfl rfl rfl ?_ | refine again_guard rfl rfl rfl rfl ?_ | exact same_undef | exact same_of rfl rfl | refine give_ret ?_ | refine give_end ?_)
  refine (wc _ (SlIn.gr hib g1)).mono ?_
  rintro _ h2 ⟨⟨W, L, bo, rfl, hB, hel, hci⟩, g2⟩; have n2 := g2.1; have k2 := g2.2; try simp only [next_new, next_set] at n2 k2
  have hgp2 : h2.get pp = some (.cells [.slice none 0 0] 36 true) := by rw [k2 _ (by omega), k1 _ hpp]; exact hgp
  have hgb2 : h2.get pb = some (.cells [.slice ab b.length cb] 22 true) := by rw [k2 _ (by omega)]; exact hgb1
  repeat' (first
    | ((with_reducible first | refine optP_id ?_ | refine resP_id ?_ | refine callT_of ?_); conv => { arg 1; simp (disch := first | assumption | omega) only [push_cast, ↓reduceIte, reduceIte, Nat.reduceEqDiff, Nat.reduceAdd, Nat.reduceSub, Nat.reduceMul, Nat.reduceBEq, Int.reduceNeg, k1, k2, hgb, hgl, hgp] }; first | ((with_reducible refine optP_id ?_); refine optP_some ?_) | ((with_reducible refine resP_id ?_); refine resP_zero ?_) | ((with_reducible refine callT_to ?_); refine callP_plain ?_))
    | refine wk_seq ?_ | refine wk_region ?_ | refine wk_draw (by kernel_rfl) (by decide +kernel) ?_ | refine wk_drawn [(0, 4)] (by kernel_rfl) (by decide +kernel) ?_ | refine wo_nil ?_ | refine wk_nil ?_ | refine wo_dst rfl (opR_call ?_) | refine wo_nodst (opR_call ?_) | refine wo_dst rfl (opR_pure ?_) | refine wo_nodst (opR_pure ?_)
    | refine wd_dst rfl (opR_call ?_) | refine wd_nodst (opR_call ?_) | refine wd_dst rfl (opR_pick ?_) | refine wd_guard rfl rfl ?_ | refine wd_guardn rfl ?_ | refine wd_dst rfl (opR_pure ?_) | refine wd_nodst (opR_pure ?_) | refine opR_call ?_ | refine opR_pick ?_ | refine opR_pure ?_ | (refine wd_nil ?_; refine doneD rfl rfl ?_ ?_) | refine again_nil | refine again_cons ?_ ?_ | refine again_plain rfl rfl rfl ?_ | refine again_guard rfl rfl rfl rfl ?_ | exact same_undef | exact same_of rfl rfl | refine give_ret ?_ | refine give_end ?_)
  · exact same_of rfl okb
  · refine ⟨W, L, bo, by rw [get_set_self], fun hn => ⟨by have := (hB hn).1; omega, (hB hn).2.1, by have := hB hn; rw [get_set_ne (by omega)]; exact this.2.2⟩, hel.keep (H' := h2.set pp _) (p := True) (q := pp) (Nat.le_refl _) (fun c hc hne => get_set_ne (Ne.symm (hne trivial)) _) (fun _ => hgp2) (by decide), hci, by simp only [next_set]; omega, fun c hc hne => by rw [get_set_ne (Ne.symm hne), k2 _ (by omega), k1 _ hc]⟩
theorem len_ne {l : List Int} (h : l ≠ []) : ¬ (l.length : Int) = 0 := fun e => h (List.eq_nil_of_length_eq_zero (by omega))
set_option maxRecDepth 100000 in
set_option maxHeartbeats 8000000 in
theorem bytable_w (l b : List Int) (hl : valid l) (ll : l.length ≤ 15) (hb : valid b) (lb : b.length ≤ 16) (vl vb : Value) (h : AHeap) (hil : IIn h vl l) (hib : IIn h vb b) (okl : okC vl = true) (okb : okC vb = true) :
    Wc pr (.func 24) [vl, vb] h fun r h' => (∃ (L : List (List Int × Int)) (a : Option Addr) (c : Nat), r = .tuple #[.slice a L.length c, .int .i64 0] ∧ PIn h' (.slice a L.length c) L ∧ cInv (valN l) 0 (valN b) (2 * b.length) L) ∧ Gr h h' := by
  have hil0 := hil
  have hib0 := hib
  obtain ⟨ab, cb, rfl, _, _⟩ := hib
  obtain ⟨al, cl, rfl, _, _⟩ := hil
  refine wc_func Tryz.func24 rfl rfl rfl rfl ?_
  repeat' (first
    | ((with_reducible first | refine optP_id ?_ | refine condP_id ?_ | refine resP_id ?_ | refine callT_of ?_); conv => { arg 1; simp (disch := first | assumption | omega) only [push_cast, ↓reduceIte, reduceIte, Nat.reduceEqDiff, Nat.reduceAdd, Nat.reduceSub, Nat.reduceMul, Nat.reduceBEq, Int.reduceNeg] }; first | ((with_reducible refine optP_id ?_); refine optP_some ?_) | ((with_reducible refine condP_id ?_); first | refine qcy ?_ | refine qcx ?_ | refine qco ?_ | refine condP_decn (fun hc => ?_) (fun hc => ?_) | refine condP_dec (fun hc => ?_) (fun hc => ?_) | refine qct ?_ | refine qcf ?_ | refine condP_bool (fun hc => ?_) (fun hc => ?_)) | ((with_reducible refine resP_id ?_); refine resP_two ?_) | ((with_reducible refine callT_to ?_); refine callP_plain ?_))
    | refine wk_seq ?_ | refine wk_region ?_ | refine wk_skip ?_ | refine wk_draw (by kernel_rfl) (by decide +kernel) ?_ | refine wk_drawn [(2, 1)] (by kernel_rfl) (by decide +kernel) ?_ | refine wk_drawn [(2, 5)] (by kernel_rfl) (by decide +kernel) ?_ | refine wo_nil ?_ | refine wk_cond ?_ | refine wk_ret ?_ | refine wk_nil ?_ | refine wo_dst rfl (opR_call ?_) | refine wo_nodst (opR_call ?_) | refine wo_dst rfl (opR_pure ?_) | refine wo_nodst (opR_pure ?_)
    | refine wd_dst rfl (opR_call ?_) | refine wd_nodst (opR_call ?_) | refine wd_dst rfl (opR_pick ?_) | refine wd_guard rfl rfl ?_ | refine wd_guardn rfl ?_ | refine wd_dst rfl (opR_pure ?_) | refine wd_nodst (opR_pure ?_) | refine opR_call ?_ | refine opR_pick ?_ | refine opR_pure ?_ | (refine wd_nil ?_; refine doneD rfl rfl ?_ ?_) | refine again_nil | refine again_cons ?_ ?_ | refine again_plain rfl rfl rfl ?_ | refine again_guard rfl rfl rfl rfl ?_ | exact same_undef | exact same_of rfl rfl | refine give_ret ?_ | refine give_end ?_)
  refine (check_w l _ _ (SlIn.gr hil0 (by (repeat (first | exact Gr.refl _ | assumption | (refine Gr.trans ?_ (by assumption)) | refine Gr.set ?_ (by first | exact Nat.le_refl _ | omega | (simp only [next_new, next_set]; omega)) _ | refine Gr.new ?_ _)))) (by omega)).mono ?_
  rintro _ _ ⟨rfl, rfl⟩
  rw [valid_check hl (by omega)]
  repeat' (first
    | ((with_reducible first | refine optP_id ?_ | refine condP_id ?_ | refine resP_id ?_ | refine callT_of ?_); conv => { arg 1; simp (disch := first | assumption | omega) only [push_cast, ↓reduceIte, reduceIte, Nat.reduceEqDiff, Nat.reduceAdd, Nat.reduceSub, Nat.reduceMul, Nat.reduceBEq, Int.reduceNeg] }; first | ((with_reducible refine optP_id ?_); refine optP_some ?_) | ((with_reducible refine condP_id ?_); first | refine qcy ?_ | refine qcx ?_ | refine qco ?_ | refine condP_decn (fun hc => ?_) (fun hc => ?_) | refine condP_dec (fun hc => ?_) (fun hc => ?_) | refine qct ?_ | refine qcf ?_ | refine condP_bool (fun hc => ?_) (fun hc => ?_)) | ((with_reducible refine resP_id ?_); refine resP_two ?_) | ((with_reducible refine callT_to ?_); refine callP_plain ?_))
    | refine wk_seq ?_ | refine wk_region ?_ | refine wk_skip ?_ | refine wk_draw (by kernel_rfl) (by decide +kernel) ?_ | refine wk_drawn [(2, 1)] (by kernel_rfl) (by decide +kernel) ?_ | refine wk_drawn [(2, 5)] (by kernel_rfl) (by decide +kernel) ?_ | refine wo_nil ?_ | refine wk_cond ?_ | refine wk_ret ?_ | refine wk_nil ?_ | refine wo_dst rfl (opR_call ?_) | refine wo_nodst (opR_call ?_) | refine wo_dst rfl (opR_pure ?_) | refine wo_nodst (opR_pure ?_)
    | refine wd_dst rfl (opR_call ?_) | refine wd_nodst (opR_call ?_) | refine wd_dst rfl (opR_pick ?_) | refine wd_guard rfl rfl ?_ | refine wd_guardn rfl ?_ | refine wd_dst rfl (opR_pure ?_) | refine wd_nodst (opR_pure ?_) | refine opR_call ?_ | refine opR_pick ?_ | refine opR_pure ?_ | (refine wd_nil ?_; refine doneD rfl rfl ?_ ?_) | refine again_nil | refine again_cons ?_ ?_ | refine again_plain rfl rfl rfl ?_ | refine again_guard rfl rfl rfl rfl ?_ | exact same_undef | exact same_of rfl rfl | refine give_ret ?_ | refine give_end ?_)
  refine (check_w b _ _ (SlIn.gr hib0 (by (repeat (first | exact Gr.refl _ | assumption | (refine Gr.trans ?_ (by assumption)) | refine Gr.set ?_ (by first | exact Nat.le_refl _ | omega | (simp only [next_new, next_set]; omega)) _ | refine Gr.new ?_ _)))) (by omega)).mono ?_
  rintro _ _ ⟨rfl, rfl⟩
  rw [valid_check hb lb]
  repeat' (first
    | ((with_reducible first | refine optP_id ?_ | refine condP_id ?_ | refine resP_id ?_ | refine callT_of ?_); conv => { arg 1; simp (disch := first | assumption | omega) only [push_cast, ↓reduceIte, reduceIte, Nat.reduceEqDiff, Nat.reduceAdd, Nat.reduceSub, Nat.reduceMul, Nat.reduceBEq, Int.reduceNeg] }; first | ((with_reducible refine optP_id ?_); refine optP_some ?_) | ((with_reducible refine condP_id ?_); first | refine qcy ?_ | refine qcx ?_ | refine qco ?_ | refine condP_decn (fun hc => ?_) (fun hc => ?_) | refine condP_dec (fun hc => ?_) (fun hc => ?_) | refine qct ?_ | refine qcf ?_ | refine condP_bool (fun hc => ?_) (fun hc => ?_)) | ((with_reducible refine resP_id ?_); refine resP_two ?_) | ((with_reducible refine callT_to ?_); refine callP_plain ?_))
    | refine wk_seq ?_ | refine wk_region ?_ | refine wk_skip ?_ | refine wk_draw (by kernel_rfl) (by decide +kernel) ?_ | refine wk_drawn [(2, 1)] (by kernel_rfl) (by decide +kernel) ?_ | refine wk_drawn [(2, 5)] (by kernel_rfl) (by decide +kernel) ?_ | refine wo_nil ?_ | refine wk_cond ?_ | refine wk_ret ?_ | refine wk_nil ?_ | refine wo_dst rfl (opR_call ?_) | refine wo_nodst (opR_call ?_) | refine wo_dst rfl (opR_pure ?_) | refine wo_nodst (opR_pure ?_)
    | refine wd_dst rfl (opR_call ?_) | refine wd_nodst (opR_call ?_) | refine wd_dst rfl (opR_pick ?_) | refine wd_guard rfl rfl ?_ | refine wd_guardn rfl ?_ | refine wd_dst rfl (opR_pure ?_) | refine wd_nodst (opR_pure ?_) | refine opR_call ?_ | refine opR_pick ?_ | refine opR_pure ?_ | (refine wd_nil ?_; refine doneD rfl rfl ?_ ?_) | refine again_nil | refine again_cons ?_ ?_ | refine again_plain rfl rfl rfl ?_ | refine again_guard rfl rfl rfl rfl ?_ | exact same_undef | exact same_of rfl rfl | refine give_ret ?_ | refine give_end ?_)
  refine (or_w 0 0 _ _ _ (by simp (disch := first | assumption | omega) only [push_cast, ↓reduceIte, reduceIte, Nat.reduceEqDiff, Nat.reduceAdd, Nat.reduceSub, Nat.reduceMul, Nat.reduceBEq, Int.reduceNeg])).mono ?_
  rintro _ _ ⟨rfl, rfl⟩
  rw [if_neg (fun h => h rfl)]
  have sme : same (Value.slice ab b.length cb) (Value.slice ab b.length cb) = true := same_of rfl okb
  by_cases h0 : l = []
  · have hz : (l.length : Int) = 0 := by rw [h0]; rfl
    repeat' (first
    | ((with_reducible first | refine optP_id ?_ | refine condP_id ?_ | refine resP_id ?_ | refine callT_of ?_); conv => { arg 1; simp (disch := first | assumption | omega) only [push_cast, ↓reduceIte, reduceIte, Nat.reduceEqDiff, Nat.reduceAdd, Nat.reduceSub, Nat.reduceMul, Nat.reduceBEq, Int.reduceNeg] }; first | ((with_reducible refine optP_id ?_); refine optP_some ?_) | ((with_reducible refine condP_id ?_); first | refine qcy ?_ | refine qcx ?_ | refine qco ?_ | refine condP_decn (fun hc => ?_) (fun hc => ?_) | refine condP_dec (fun hc => ?_) (fun hc => ?_) | refine qct ?_ | refine qcf ?_ | refine condP_bool (fun hc => ?_) (fun hc => ?_)) | ((with_reducible refine resP_id ?_); refine resP_two ?_) | ((with_reducible refine callT_to ?_); refine callP_plain ?_))
    | refine wk_seq ?_ | refine wk_region ?_ | refine wk_skip ?_ | refine wk_draw (by kernel_rfl) (by decide +kernel) ?_ | refine wk_drawn [(2, 1)] (by kernel_rfl) (by decide +kernel) ?_ | refine wk_drawn [(2, 5)] (by kernel_rfl) (by decide +kernel) ?_ | refine wo_nil ?_ | refine wk_cond ?_ | refine wk_ret ?_ | refine wk_nil ?_ | refine wo_dst rfl (opR_call ?_) | refine wo_nodst (opR_call ?_) | refine wo_dst rfl (opR_pure ?_) | refine wo_nodst (opR_pure ?_)
    | refine wd_dst rfl (opR_call ?_) | refine wd_nodst (opR_call ?_) | refine wd_dst rfl (opR_pick ?_) | refine wd_guard rfl rfl ?_ | refine wd_guardn rfl ?_ | refine wd_dst rfl (opR_pure ?_) | refine wd_nodst (opR_pure ?_) | refine opR_call ?_ | refine opR_pick ?_ | refine opR_pure ?_ | (refine wd_nil ?_; refine doneD rfl rfl ?_ ?_) | refine again_nil | refine again_cons ?_ ?_ | refine again_plain rfl rfl rfl ?_ | refine again_guard rfl rfl rfl rfl ?_ | exact same_undef | exact same_of rfl rfl | refine give_ret ?_ | refine give_end ?_)
    · exact sme
    · exact ⟨⟨[], none, 0, rfl, ⟨[], rfl, ⟨none, 0, rfl, Nat.zero_le _, fun h => absurd rfl h⟩, fun i hi => absurd hi (Nat.not_lt_zero i)⟩, by rw [h0]; exact ⟨Nat.zero_le _, fun x h => (nomatch h), by simp [valN]⟩⟩, by (repeat (first | exact Gr.refl _ | assumption | (refine Gr.trans ?_ (by assumption)) | refine Gr.set ?_ (by first | exact Nat.le_refl _ | omega | (simp only [next_new, next_set]; omega)) _ | refine Gr.new ?_ _))⟩
  · have hz := len_ne h0
    repeat' (first
    | ((with_reducible first | refine optP_id ?_ | refine condP_id ?_ | refine resP_id ?_ | refine callT_of ?_); conv => { arg 1; simp (disch := first | assumption | omega) only [push_cast, ↓reduceIte, reduceIte, Nat.reduceEqDiff, Nat.reduceAdd, Nat.reduceSub, Nat.reduceMul, Nat.reduceBEq, Int.reduceNeg] }; first | ((with_reducible refine optP_id ?_); refine optP_some ?_) | ((with_reducible refine condP_id ?_); first | refine qcy ?_ | refine qcx ?_ | refine qco ?_ | refine condP_decn (fun hc => ?_) (fun hc => ?_) | refine condP_dec (fun hc => ?_) (fun hc => ?_) | refine qct ?_ | refine qcf ?_ | refine condP_bool (fun hc => ?_) (fun hc => ?_)) | ((with_reducible refine resP_id ?_); refine resP_two ?_) | ((with_reducible refine callT_to ?_); refine callP_plain ?_))
    | refine wk_seq ?_ | refine wk_region ?_ | refine wk_skip ?_ | refine wk_draw (by kernel_rfl) (by decide +kernel) ?_ | refine wk_drawn [(2, 1)] (by kernel_rfl) (by decide +kernel) ?_ | refine wk_drawn [(2, 5)] (by kernel_rfl) (by decide +kernel) ?_ | refine wo_nil ?_ | refine wk_cond ?_ | refine wk_ret ?_ | refine wk_nil ?_ | refine wo_dst rfl (opR_call ?_) | refine wo_nodst (opR_call ?_) | refine wo_dst rfl (opR_pure ?_) | refine wo_nodst (opR_pure ?_)
    | refine wd_dst rfl (opR_call ?_) | refine wd_nodst (opR_call ?_) | refine wd_dst rfl (opR_pick ?_) | refine wd_guard rfl rfl ?_ | refine wd_guardn rfl ?_ | refine wd_dst rfl (opR_pure ?_) | refine wd_nodst (opR_pure ?_) | refine opR_call ?_ | refine opR_pick ?_ | refine opR_pure ?_ | (refine wd_nil ?_; refine doneD rfl rfl ?_ ?_) | refine again_nil | refine again_cons ?_ ?_ | refine again_plain rfl rfl rfl ?_ | refine again_guard rfl rfl rfl rfl ?_ | exact same_undef | exact same_of rfl rfl | refine give_ret ?_ | refine give_end ?_)
    · exact sme
    · refine att_w ?_
      refine (bt1_w l b hl h0 ll hb.1 lb (h.next + 1) h.next (h.next + 1 + 1) _ _ _ (by simp (disch := first | assumption | omega) only [push_cast, ↓reduceIte, reduceIte, Nat.reduceEqDiff, Nat.reduceAdd, Nat.reduceSub, Nat.reduceMul, Nat.reduceBEq, Int.reduceNeg]) (by simp (disch := first | assumption | omega) only [push_cast, ↓reduceIte, reduceIte, Nat.reduceEqDiff, Nat.reduceAdd, Nat.reduceSub, Nat.reduceMul, Nat.reduceBEq, Int.reduceNeg]) (by simp (disch := first | assumption | omega) only [push_cast, ↓reduceIte, reduceIte, Nat.reduceEqDiff, Nat.reduceAdd, Nat.reduceSub, Nat.reduceMul, Nat.reduceBEq, Int.reduceNeg]) (by simp only [next_new]; omega) (by simp only [next_new]; omega) (by simp only [next_new]; omega) (SlIn.gr hib0 (by (repeat (first | exact Gr.refl _ | assumption | (refine Gr.trans ?_ (by assumption)) | refine Gr.set ?_ (by first | exact Nat.le_refl _ | omega | (simp only [next_new, next_set]; omega)) _ | refine Gr.new ?_ _)))) (SlIn.gr hil0 (by (repeat (first | exact Gr.refl _ | assumption | (refine Gr.trans ?_ (by assumption)) | refine Gr.set ?_ (by first | exact Nat.le_refl _ | omega | (simp only [next_new, next_set]; omega)) _ | refine Gr.new ?_ _)))) okb).mono ?_
      rintro _ h3 ⟨W, L, bo, hp3, hB, hel, hci, n3, k3⟩
      simp only [next_new] at n3 k3 hB ⊢
      refine ⟨by rw [k3 _ (by omega) (by omega)]; simp (disch := first | assumption | omega) only [push_cast, ↓reduceIte, reduceIte, Nat.reduceEqDiff, Nat.reduceAdd, Nat.reduceSub, Nat.reduceMul, Nat.reduceBEq, Int.reduceNeg], by omega, fun h4 g4 => ?_⟩
      have n4 := g4.1
      have k4 := g4.2
      have hp4 : h4.get (h.next + 1 + 1) = some (.cells [.slice (ownB W bo) W.length W.length] 36 true) := by rw [k4 _ (by omega)]; exact hp3
      have hB4 : W ≠ [] → bo < h4.next ∧ h4.get bo = some (.cells (flatE encP W) 41 true) := fun hn => ⟨by have := (hB hn).2.1; omega, by rw [k4 _ (hB hn).2.1]; exact (hB hn).2.2⟩
      have hel4 := hel.gr g4
      have hW : W.length ≤ 1000 := by have := hci.1; have := hel.1; omega
      have gr4 : Gr h h4 := ⟨by omega, fun c hc => by rw [k4 _ (by omega), k3 _ (by omega) (by omega)]; simp (disch := first | assumption | omega) only [push_cast, ↓reduceIte, reduceIte, Nat.reduceEqDiff, Nat.reduceAdd, Nat.reduceSub, Nat.reduceMul, Nat.reduceBEq, Int.reduceNeg]⟩
      have okw : okC (.slice (ownB W bo) W.length W.length) = true := by cases W <;> rfl
      have smw : same (.slice (ownB W bo) W.length W.length) (.slice (ownB W bo) W.length W.length) = true := same_of rfl okw
      repeat' (first
    | ((with_reducible first | refine optP_id ?_ | refine condP_id ?_ | refine resP_id ?_ | refine callT_of ?_); conv => { arg 1; simp (disch := first | assumption | omega) only [push_cast, ↓reduceIte, reduceIte, Nat.reduceEqDiff, Nat.reduceAdd, Nat.reduceSub, Nat.reduceMul, Nat.reduceBEq, Int.reduceNeg, hp4] }; first | ((with_reducible refine optP_id ?_); refine optP_some ?_) | ((with_reducible refine condP_id ?_); first | refine qcy ?_ | refine qcx ?_ | refine qco ?_ | refine condP_decn (fun hc => ?_) (fun hc => ?_) | refine condP_dec (fun hc => ?_) (fun hc => ?_) | refine qct ?_ | refine qcf ?_ | refine condP_bool (fun hc => ?_) (fun hc => ?_)) | ((with_reducible refine resP_id ?_); refine resP_two ?_) | ((with_reducible refine callT_to ?_); refine callP_plain ?_))
    | refine wk_seq ?_ | refine wk_region ?_ | refine wk_skip ?_ | refine wk_draw (by kernel_rfl) (by decide +kernel) ?_ | refine wk_drawn [(2, 1)] (by kernel_rfl) (by decide +kernel) ?_ | refine wk_drawn [(2, 5)] (by kernel_rfl) (by decide +kernel) ?_ | refine wo_nil ?_ | refine wk_cond ?_ | refine wk_ret ?_ | refine wk_nil ?_ | refine wo_dst rfl (opR_call ?_) | refine wo_nodst (opR_call ?_) | refine wo_dst rfl (opR_pure ?_) | refine wo_nodst (opR_pure ?_)
    | refine wd_dst rfl (opR_call ?_) | refine wd_nodst (opR_call ?_) | refine wd_dst rfl (opR_pick ?_) | refine wd_guard rfl rfl ?_ | refine wd_guardn rfl ?_ | refine wd_dst rfl (opR_pure ?_) | refine wd_nodst (opR_pure ?_) | refine opR_call ?_ | refine opR_pick ?_ | refine opR_pure ?_ | (refine wd_nil ?_; refine doneD rfl rfl ?_ ?_) | refine again_nil | refine again_cons ?_ ?_ | refine again_plain rfl rfl rfl ?_ | refine again_guard rfl rfl rfl rfl ?_ | exact same_undef | exact same_of rfl rfl | refine give_ret ?_ | refine give_end ?_)
      all_goals first | exact smw | skip
      have hg6 : ∀ ob ob2, Gr h4 ((h4.new ob).set h4.next ob2) := fun ob ob2 => (Gr.new (Gr.refl _) ob).set (Nat.le_refl _) ob2
      refine ⟨⟨L, ownB W bo, W.length, by rw [← hel.1], ?_, hci⟩, ?_⟩
      · rw [← hel.1]
        refine pin_own (fun hn => ⟨?_, ?_⟩) hW ((hel4.gr (hg6 _ _)).keep (H' := _) (p := True) (q := h.next + 1 + 1) (Nat.le_refl _) (fun c hc hne => get_set_ne (Ne.symm (hne trivial)) _) (fun _ => by rw [(hg6 _ _).2 _ (by omega)]; exact hp4) (by decide))
        · have := (hB4 hn).1; simp only [next_new, next_set]; omega
        · have h7 := hB hn; rw [get_set_ne (by omega), (hg6 _ _).2 _ (hB4 hn).1]; exact (hB4 hn).2
      · exact Gr.set (gr4.trans (hg6 _ _)) (by omega) _
end Go.Proofs.YtelepfablohdmaaGreatDoor
