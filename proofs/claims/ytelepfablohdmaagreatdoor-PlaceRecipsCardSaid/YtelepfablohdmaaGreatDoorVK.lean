/- Contract: Steps, of regular numbers. -/
import Derived.Test.YtelepfablohdmaaGreatDoorVG
import Derived.Test.YtelepfablohdmaaGreatDoorVC
import Derived.Test.YtelepfablohdmaaGreatDoorWZ
set_option linter.unusedSimpArgs false
set_option linter.unusedVariables false
/- The factors of steps; pairOf. -/
namespace Go.Proofs.YtelepfablohdmaaGreatDoor
open Go.Ev
def facN : List Nat := [2, 3, 4, 5, 6, 8, 9, 10, 12, 15, 16, 18, 20, 24, 25, 27, 30, 32, 36, 40, 45, 48, 50, 54, 64, 72, 75, 80, 81]
def facI : List Int := [2, 3, 4, 5, 6, 8, 9, 10, 12, 15, 16, 18, 20, 24, 25, 27, 30, 32, 36, 40, 45, 48, 50, 54, 64, 72, 75, 80, 81]
theorem fac_get : ∀ i (h1 : i < facI.length) (h2 : i < facN.length), facI[i] = ((facN[i] : Nat) : Int) := by decide +kernel
theorem fac_reg : ∀ f ∈ facN, 2 ≤ f ∧ f ≤ 81 ∧ f % 60 ≠ 0 ∧ ∃ a, a < 7 ∧ ∃ b, b < 5 ∧ ∃ c, c < 3 ∧ f = 2 ^ a * 3 ^ b * 5 ^ c := by decide +kernel
theorem IIn.setT {H : AHeap} {v : Value} {q e' : Nat} {l : List Int} {ob : AObj} {C : List Value} {rw' : Bool} (h : IIn H v l) (hq : H.get q = some (.cells C e' rw')) (he : e' ≠ 3) : IIn (H.set q ob) v l := by
  obtain ⟨a', c', e, hc, hv⟩ := h
  refine ⟨a', c', e, hc, fun hne => ?_⟩
  obtain ⟨b, off, all, rw', h1, h2, h3, h4⟩ := hv hne
  refine ⟨b, off, all, rw', h1, by rw [next_set]; exact h2, ?_, h4⟩
  have hbq : q ≠ b := fun e => by
    subst e
    rw [hq] at h3
    cases h3
    exact he rfl
  rw [get_set_ne hbq]
  exact h3
/-- digits of a factor and of its reciprocal -/
def isPair (f : Nat) (A B : List Int) : Prop := valid A ∧ A ≠ [] ∧ A.length ≤ 8 ∧ valN A = f ∧ valid B ∧ B ≠ [] ∧ B.length ≤ 4 ∧ ∃ E, f * valN B = 60 ^ E
theorem fac_dvd : ∀ f ∈ facN, f ∣ 60 ^ 4 := fun f hf => Nat.dvd_of_mod_eq_zero ((by decide +kernel : ∀ f ∈ facN, 60 ^ 4 % f = 0) f hf)
theorem recip_bound {P y E K : Nat} (hd : P ∣ 60 ^ K) (h : P * y = 60 ^ E) (hy : y % 60 ≠ 0) (hP : 0 < P) : E ≤ K := by
  apply Classical.byContradiction
  intro hh
  obtain ⟨g, hg⟩ := hd
  have e1 : 60 ^ E = P * (g * 60 ^ (E - K)) := by rw [← Nat.mul_assoc, ← hg, ← Nat.pow_add]; congr 1; omega
  rw [e1] at h
  have h2 := Nat.eq_of_mul_eq_mul_left hP h
  obtain ⟨j, hj⟩ : ∃ j, E - K = j + 1 := ⟨E - K - 1, by omega⟩
  rw [h2, hj, Nat.pow_succ, ← Nat.mul_assoc] at hy
  exact hy (Nat.mul_mod_left _ _)
theorem recip_len {f E e : Nat} {d : List Int} (hf : f ∈ facN) (hv : valid d) (hd0 : d ≠ []) (h : f * valN d * 60 ^ e = 60 ^ E) : d.length ≤ 4 ∧ ∃ E', f * valN d = 60 ^ E' := by
  have f2 := (fac_reg f hf).1
  have hp := valN_pos hv hd0
  have h1 : 60 ^ e ≤ 60 ^ E := by rw [← h]; exact Nat.le_mul_of_pos_left _ (Nat.mul_pos (by omega) hp)
  have he : e ≤ E := (Nat.pow_le_pow_iff_right (by decide : 1 < 60)).1 h1
  have h2 : f * valN d = 60 ^ (E - e) := Nat.eq_of_mul_eq_mul_right (pow60_pos e) (by rw [h, ← Nat.pow_add]; congr 1; omega)
  have hE := recip_bound (fac_dvd f hf) h2 (valN_mod hv hd0) (by omega)
  have h3 : f * valN d ≤ 60 ^ 4 := by rw [h2]; exact Nat.pow_le_pow_right (by decide) hE
  have h4 : 2 * valN d ≤ f * valN d := Nat.mul_le_mul_right _ f2
  have h5 := valid_ge hv hd0
  have h6 : 60 ^ (d.length - 1) < 60 ^ 4 := by omega
  have h7 := (Nat.pow_lt_pow_iff_right (by decide : 1 < 60)).1 h6
  exact ⟨by omega, _, h2⟩
theorem irr_no {a b c : Nat} (h : irr (2 ^ a * 3 ^ b * 5 ^ c)) : False := by
  obtain ⟨R, h1, h2, h3, h5, hd⟩ := h
  exact h1 (only_one h2 h3 h5 hd)
end Go.Proofs.YtelepfablohdmaaGreatDoor
/- Of and Recip: their digits lie in new memory. -/
namespace Go.Proofs.YtelepfablohdmaaGreatDoor
open Go.Ev
set_option maxRecDepth 100000 in
set_option maxHeartbeats 8000000 in
theorem pairof2_w (f : Nat) (hf : f ∈ facN) (h : AHeap) :
    Wc pr (.func 90) [.int .i64 (f : Int)] h fun r h' => (∃ (A B : List Int) (a b : Option Addr) (c d : Nat), r = .agg #[.slice a A.length c, .slice b B.length d] ∧ IIn h' (.slice a A.length c) A ∧ IIn h' (.slice b B.length d) B ∧ isPair f A B ∧ (∀ x, a = some x → h.next ≤ x.block) ∧ (∀ x, b = some x → h.next ≤ x.block)) ∧ Gr h h' := by
  obtain ⟨f2, f81, f60, a, ha, b, hb, c, hc, hf3⟩ := fac_reg f hf
  refine wc_func Tryz.func90 rfl rfl rfl rfl ?_
  repeat' (first
    | ((with_reducible first | refine optP_id ?_ | refine resP_id ?_ | refine callT_of ?_); conv => { arg 1; simp (disch := first | assumption | omega) only [push_cast, ↓reduceIte, reduceIte, Nat.reduceEqDiff, Nat.reduceAdd, Nat.reduceSub, Nat.reduceMul, Nat.reduceBEq, Int.reduceNeg] }; first | ((with_reducible refine optP_id ?_); refine optP_some ?_) | ((with_reducible refine resP_id ?_); refine resP_one ?_) | ((with_reducible refine callT_to ?_); refine callP_plain ?_))
    | refine wk_seq ?_ | refine wk_region ?_ | refine wo_nil ?_ | refine wk_ret ?_ | refine wk_nil ?_ | refine wo_dst rfl (opR_call ?_) | refine wo_nodst (opR_call ?_) | refine wo_dst rfl (opR_pure ?_) | refine wo_nodst (opR_pure ?_)
    | refine give_ret ?_ | refine give_end ?_)
  refine (of2_w f (by omega) _).mono ?_
  rintro _ h1 ⟨⟨v1, l, e1, rfl, hil, hvl, hve, hl8, he8, hz, hfq⟩, g1⟩; have n1 := g1.1; have k1 := g1.2; try simp only [next_new, next_set] at n1 k1
  have hl0 : l ≠ [] := fun hh => by have := hz.2 hh; omega
  obtain ⟨e0, hvf⟩ : e1 = 0 ∧ valN l = f := by
    obtain ⟨q1, q2⟩ := pow_split (m := valN l) (n := f) (e := e1) (f := 0) (valN_mod hvl hl0) f60 (by rw [Nat.pow_zero, Nat.mul_one]; exact hve)
    exact ⟨q2, q1⟩
  obtain ⟨al, cl, rfl, _⟩ := id hil
  repeat' (first
    | ((with_reducible first | refine optP_id ?_ | refine resP_id ?_ | refine callT_of ?_); conv => { arg 1; simp (disch := first | assumption | omega) only [push_cast, ↓reduceIte, reduceIte, Nat.reduceEqDiff, Nat.reduceAdd, Nat.reduceSub, Nat.reduceMul, Nat.reduceBEq, Int.reduceNeg, k1] }; first | ((with_reducible refine optP_id ?_); refine optP_some ?_) | ((with_reducible refine resP_id ?_); refine resP_one ?_) | ((with_reducible refine callT_to ?_); refine callP_plain ?_))
    | refine wk_seq ?_ | refine wk_region ?_ | refine wo_nil ?_ | refine wk_ret ?_ | refine wk_nil ?_ | refine wo_dst rfl (opR_call ?_) | refine wo_nodst (opR_call ?_) | refine wo_dst rfl (opR_pure ?_) | refine wo_nodst (opR_pure ?_)
    | refine give_ret ?_ | refine give_end ?_)
  refine (recip2_w l hvl (by omega) _ _ hil).mono ?_
  rintro _ h2 ⟨⟨hr, hfr⟩, g2⟩; have n2 := g2.1; have k2 := g2.2; try simp only [next_new, next_set] at n2 k2
  rcases hr with ⟨q, _⟩ | ⟨_, q, _⟩ | ⟨_, a', b', c', q1, q2, q3⟩
  · exact absurd q hl0
  · rw [hvf, hf3] at q; exact (irr_no q).elim
  · have hmul := inv60_mul a' b' c'
    rw [← q1, hvf] at hmul
    have hle := inv60_le a' b' c'
    obtain ⟨d, w, hd, hor⟩ := q3
    have hd0 : d ≠ [] := nf_pos hd (Nat.ne_of_gt (inv60_pos _ _ _))
    obtain ⟨hdv, _, e3, he3⟩ := hd
    have hex : f * valN d * 60 ^ e3 = 60 ^ exE a' b' c' := by rw [Nat.mul_assoc, he3, hmul]
    obtain ⟨d4, E, hE⟩ := recip_len hf hdv hd0 hex
    rcases hor with ⟨h16, rfl, hin⟩ | ⟨h16, _⟩
    · obtain ⟨ad, cd, rfl, _⟩ := id hin
      have hp : isPair f l d := ⟨hvl, hl0, hl8, hvf, hdv, hd0, d4, E, hE⟩
      clear hmul hle hex he3 hE hve q1 hf3
      repeat' (first
    | ((with_reducible first | refine optP_id ?_ | refine resP_id ?_ | refine callT_of ?_); conv => { arg 1; simp (disch := first | assumption | omega) only [push_cast, ↓reduceIte, reduceIte, Nat.reduceEqDiff, Nat.reduceAdd, Nat.reduceSub, Nat.reduceMul, Nat.reduceBEq, Int.reduceNeg, k1, k2] }; first | ((with_reducible refine optP_id ?_); refine optP_some ?_) | ((with_reducible refine resP_id ?_); refine resP_one ?_) | ((with_reducible refine callT_to ?_); refine callP_plain ?_))
    | refine wk_seq ?_ | refine wk_region ?_ | refine wo_nil ?_ | refine wk_ret ?_ | refine wk_nil ?_ | refine wo_dst rfl (opR_call ?_) | refine wo_nodst (opR_call ?_) | refine wo_dst rfl (opR_pure ?_) | refine wo_nodst (opR_pure ?_)
    | refine give_ret ?_ | refine give_end ?_)
      exact ⟨⟨l, d, _, _, _, _, rfl, IIn.setT (C := [.slice none 0 0, .slice none 0 0]) (e' := 69) (rw' := true) (SlIn.gr hil (by (repeat (first | exact Gr.refl _ | assumption | (refine Gr.trans ?_ (by assumption)) | refine Gr.set ?_ (by first | exact Nat.le_refl _ | omega | (simp only [next_new, next_set]; omega)) _ | refine Gr.new ?_ _)))) (by simp (disch := first | assumption | omega) only [push_cast, ↓reduceIte, reduceIte, Nat.reduceEqDiff, Nat.reduceAdd, Nat.reduceSub, Nat.reduceMul, Nat.reduceBEq, Int.reduceNeg, k2, k1]) (by decide), IIn.setT (C := [.slice none 0 0, .slice none 0 0]) (e' := 69) (rw' := true) (SlIn.gr hin (by (repeat (first | exact Gr.refl _ | assumption | (refine Gr.trans ?_ (by assumption)) | refine Gr.set ?_ (by first | exact Nat.le_refl _ | omega | (simp only [next_new, next_set]; omega)) _ | refine Gr.new ?_ _)))) (by simp (disch := first | assumption | omega) only [push_cast, ↓reduceIte, reduceIte, Nat.reduceEqDiff, Nat.reduceAdd, Nat.reduceSub, Nat.reduceMul, Nat.reduceBEq, Int.reduceNeg, k2, k1]) (by decide), hp, fun x hx => by subst hx; have := hfq _ _ _ rfl; simp only [next_new, next_set] at this; omega, fun x hx => by subst hx; have := hfr _ _ _ _ rfl; omega⟩, by (repeat (first | exact Gr.refl _ | assumption | (refine Gr.trans ?_ (by assumption)) | refine Gr.set ?_ (by first | exact Nat.le_refl _ | omega | (simp only [next_new, next_set]; omega)) _ | refine Gr.new ?_ _))⟩
    · omega
end Go.Proofs.YtelepfablohdmaaGreatDoor
namespace Go.Proofs.YtelepfablohdmaaGreatDoor
open Go.Ev
def prodN : List Nat → Nat
  | [] => 1
  | f :: F => f * prodN F
theorem prodN_app : ∀ (F G : List Nat), prodN (F ++ G) = prodN F * prodN G
  | [], G => (Nat.one_mul _).symm
  | f :: F, G => by
    show f * prodN (F ++ G) = f * prodN F * prodN G
    rw [prodN_app F G, Nat.mul_assoc]
theorem prodN_snoc (F : List Nat) (f : Nat) : prodN (F ++ [f]) = prodN F * f := by rw [prodN_app]; show _ = _ * f; rw [show prodN [f] = f from Nat.mul_one f]
theorem prodN_len : ∀ {F : List Nat}, (∀ f ∈ F, 2 ≤ f) → 2 ^ F.length ≤ prodN F
  | [], _ => Nat.le_refl _
  | f :: F, h => by
    have h1 := prodN_len (F := F) fun g hg => h g (.tail _ hg)
    have h2 := h f (.head _)
    rw [List.length_cons, Nat.pow_succ, Nat.mul_comm]
    exact Nat.mul_le_mul h2 h1
/-- the cells of a pair of slices -/
def encV (x : Value × Value) : List Value := [x.1, x.2]
theorem encV_len (x : Value × Value) : (encV x).length = 2 := rfl
def elsV (lo : Nat) (H : AHeap) (W : List (Value × Value)) (F : List Nat) : Prop := W.length = F.length ∧ ∀ i (h1 : i < W.length) (h2 : i < F.length), ∃ (A B : List Int) (a b : Option Addr) (c d : Nat), W[i] = (.slice a A.length c, .slice b B.length d) ∧ IIn H (.slice a A.length c) A ∧ IIn H (.slice b B.length d) B ∧ isPair F[i] A B ∧ (∀ x, a = some x → lo ≤ x.block) ∧ (∀ x, b = some x → lo ≤ x.block)
theorem elsV_nil (lo : Nat) (H : AHeap) : elsV lo H [] [] := ⟨rfl, fun i h => absurd h (Nat.not_lt_zero i)⟩
theorem get_last' {α : Type} (l : List α) (x : α) {i : Nat} (hi : i = l.length) (h : i < (l ++ [x]).length) : (l ++ [x])[i] = x := by subst hi; simp
theorem elsV.snoc {lo : Nat} {H : AHeap} {W : List (Value × Value)} {F : List Nat} {A B : List Int} {a b : Option Addr} {c d f : Nat} (h : elsV lo H W F) (hA : IIn H (.slice a A.length c) A) (hB : IIn H (.slice b B.length d) B) (hp : isPair f A B) (fa : ∀ x, a = some x → lo ≤ x.block) (fb : ∀ x, b = some x → lo ≤ x.block) : elsV lo H (W ++ [(.slice a A.length c, .slice b B.length d)]) (F ++ [f]) := by
  obtain ⟨h1, h2⟩ := h
  refine ⟨by rw [List.length_append, List.length_append, h1]; rfl, fun i x y => ?_⟩
  by_cases hi : i < W.length
  · rw [List.getElem_append_left hi, List.getElem_append_left (by omega)]
    exact h2 i hi (by omega)
  · have ei : i = W.length := by simp at x; omega
    rw [get_last' W _ ei x, get_last' F f (by omega) y]
    exact ⟨A, B, a, b, c, d, rfl, hA, hB, hp, fa, fb⟩
/-- between two heaps the lists of numbers from lo on are the same -/
def KeepI (lo : Nat) (H H' : AHeap) : Prop := H.next ≤ H'.next ∧ ∀ b, lo ≤ b → b < H.next → ∀ C rw', H.get b = some (.cells C 3 rw') → H'.get b = H.get b
theorem IIn.keepF {lo : Nat} {H H' : AHeap} {a : Option Addr} {c : Nat} {l : List Int} (h : IIn H (.slice a l.length c) l) (hf : ∀ x, a = some x → lo ≤ x.block) (hk : KeepI lo H H') : IIn H' (.slice a l.length c) l := by
  obtain ⟨a', c', e, hc, hv⟩ := h
  cases e
  refine ⟨a, c, rfl, hc, fun hne => ?_⟩
  obtain ⟨b, off, all, rw2, rfl, h2, h3, h4⟩ := hv hne
  exact ⟨b, off, all, rw2, rfl, Nat.lt_of_lt_of_le h2 hk.1, by rw [hk.2 b (hf _ rfl) h2 _ _ h3]; exact h3, h4⟩
theorem elsV.keep {lo : Nat} {H H' : AHeap} {W : List (Value × Value)} {F : List Nat} (h : elsV lo H W F) (hk : KeepI lo H H') : elsV lo H' W F :=
  ⟨h.1, fun i x y => by
    obtain ⟨A, B, a, b, c, d, e, hA, hB, hp, fa, fb⟩ := h.2 i x y
    exact ⟨A, B, a, b, c, d, e, hA.keepF fa hk, hB.keepF fb hk, hp, fa, fb⟩⟩
theorem KeepI.gr {lo : Nat} {H H' : AHeap} (g : Gr H H') : KeepI lo H H' := ⟨g.1, fun b _ hb _ _ _ => g.2 b hb⟩
theorem elsV.weak {lo lo' : Nat} {H : AHeap} {W : List (Value × Value)} {F : List Nat} (h : elsV lo H W F) (hl : lo' ≤ lo) : elsV lo' H W F :=
  ⟨h.1, fun i x y => by
    obtain ⟨A, B, a, b, c, d, e, hA, hB, hp, fa, fb⟩ := h.2 i x y
    exact ⟨A, B, a, b, c, d, e, hA, hB, hp, fun x hx => Nat.le_trans hl (fa x hx), fun x hx => Nat.le_trans hl (fb x hx)⟩⟩
theorem facin {H : AHeap} {b : Nat} (hb : b < H.next) (hg : H.get b = some (.cells facL.cells 3 false)) : IIn H (.slice (some ⟨b, 1, none⟩) 29 29) facI := by
  refine ⟨_, 29, rfl, by decide, fun _ => ⟨b, 1, facL.cells, false, rfl, hb, hg, fun i hi => ?_⟩⟩
  have hc : facL.cells = flatE encI (1 :: facI) := rfl
  have := flatE_cut encI_len (1 :: facI) (i := i + 1) (by simpa using hi)
  rw [hc, show 1 + i * 1 = (i + 1) * 1 by omega, this]
  rfl
theorem fac2_w {h : AHeap} {Q : Value → AHeap → Prop} (q : ∀ r h', (r = .slice (some ⟨h.next, 1, none⟩) 29 29 ∧ h'.get h.next = some (.cells facL.cells 3 false) ∧ h'.next = h.next + 1 ∧ Gr h h') → Q r h') : Wc pr (.func 88) [] h Q :=
  wc_x (v := .slice (some ⟨h.next, 1, none⟩) 29 29) (h' := h.new (.cells facL.cells 3 false)) rfl ⟨0, fun n S _ _ => rfl⟩ (q _ _ ⟨rfl, by rw [get_new_self], rfl, Gr.new (Gr.refl _) _⟩)
theorem facs_len {F : List Nat} {X M : Nat} (hF : ∀ f ∈ F, f ∈ facN) (h : M * prodN F = X) (hM : 0 < M) (hX : X < 60 ^ 16) : F.length ≤ 96 := by
  have h1 := prodN_len (F := F) fun f hf => (fac_reg f (hF f hf)).1
  have h2 : prodN F ≤ X := by rw [← h]; exact Nat.le_mul_of_pos_left _ hM
  have h3 : (60 : Nat) ^ 16 ≤ 2 ^ 96 := by decide
  exact Nat.le_of_lt ((Nat.pow_lt_pow_iff_right (by decide : 1 < 2)).1 (by omega))
theorem bs46_1 (a b : Option Addr) (n c m d : Nat) : buildSliceA Tryz.prog 46 1 [(0, .agg #[.slice a n c, .slice b m d])] = some (.cells [.slice a n c, .slice b m d] 69 true, fun k => .slice (some ⟨k, 0, none⟩) 1 (EX + 1)) := by kernel_rfl
attribute [push_cast] bs46_1
theorem ap46 (h : AHeap) (b : Option Addr) (n c : Nat) (x : Value) : appendOp Tryz.prog h 46 46 (.slice b n c) x = appendS h 69 2 48 b n c x := by kernel_rfl
theorem irr_dvd {X a b c : Nat} (h : irr X) (hd : X ∣ 2 ^ a * 3 ^ b * 5 ^ c) : False := by
  obtain ⟨R, h1, h2, h3, h5, hR⟩ := h
  exact h1 (only_one h2 h3 h5 (Nat.dvd_trans hR hd))
/-- what is left after all factors is 1 -/
theorem left_one {R P X i j k : Nat} (h : R * P = X) (hd : X ∣ 2 ^ i * 3 ^ j * 5 ^ k) (hf : ∀ f ∈ facN, R % f ≠ 0) : R = 1 :=
  only_one (hf 2 (by decide)) (hf 3 (by decide)) (hf 5 (by decide)) (Nat.dvd_trans ⟨P, h.symm⟩ hd)
theorem mod_keep {R R' f t g : Nat} (h : R = R' * f ^ t) (hg : R % g ≠ 0) : R' % g ≠ 0 := fun h2 => hg (by
  rw [h]
  exact Nat.mod_eq_zero_of_dvd (Nat.dvd_trans (Nat.dvd_of_mod_eq_zero h2) ⟨f ^ t, rfl⟩))
/-- the greedy factors of X: each is the greatest that divides what is left -/
def isG : Nat → List Nat → Prop
  | X, [] => X = 1
  | X, f :: F => f ∈ facN ∧ (∀ g ∈ facN, f < g → X % g ≠ 0) ∧ ∃ Y, X = Y * f ∧ isG Y F
theorem isG_uniq : ∀ {F G : List Nat} {X : Nat}, isG X F → isG X G → F = G
  | [], [], _, _, _ => rfl
  | [], g :: G, X, h, h' => by
    obtain ⟨h1, _, Y, h3, _⟩ := h'
    have h4 : X = 1 := h
    have h5 := (fac_reg g h1).1
    rw [h4] at h3
    have := Nat.eq_one_of_mul_eq_one_left h3.symm
    omega
  | f :: F, [], X, h, h' => by
    obtain ⟨h1, _, Y, h3, _⟩ := h
    have h4 : X = 1 := h'
    have h5 := (fac_reg f h1).1
    rw [h4] at h3
    have := Nat.eq_one_of_mul_eq_one_left h3.symm
    omega
  | f :: F, g :: G, X, h, h' => by
    obtain ⟨h1, h2, Y, h3, h4⟩ := h
    obtain ⟨k1, k2, Z, k3, k4⟩ := h'
    have e : f = g := by
      rcases Nat.lt_trichotomy f g with q | q | q
      · exact absurd (by rw [k3]; exact Nat.mul_mod_left _ _) (h2 g k1 q)
      · exact q
      · exact absurd (by rw [h3]; exact Nat.mul_mod_left _ _) (k2 f h1 q)
    subst e
    have f2 := (fac_reg f h1).1
    have e2 : Y = Z := Nat.eq_of_mul_eq_mul_right (show 0 < f by omega) (h3.symm.trans k3)
    subst e2
    rw [isG_uniq h4 k4]
theorem fac_sorted : ∀ m (h : m < facN.length), ∀ g ∈ facN, facN[m] < g → g ∈ facN.drop (m + 1) := by decide +kernel
theorem isG_cons {X Y f : Nat} {G : List Nat} (hf : f ∈ facN) (hg : ∀ g ∈ facN, f < g → X % g ≠ 0) (h : X = Y * f) (hG : isG Y G) : isG X (f :: G) := ⟨hf, hg, Y, h, hG⟩
theorem mod_of_dvd {R S g : Nat} (h : S ∣ R) (hg : R % g ≠ 0) : S % g ≠ 0 := fun h2 => hg (Nat.mod_eq_zero_of_dvd (Nat.dvd_trans (Nat.dvd_of_mod_eq_zero h2) h))
set_option maxRecDepth 100000 in
set_option maxHeartbeats 16000000 in
theorem steps_w (l : List Int) (i j k : Nat) (hl : valid l) (hl0 : l ≠ []) (ll : l.length ≤ 16) (hreg : valN l ∣ 2 ^ i * 3 ^ j * 5 ^ k) (v : Value) (h : AHeap) (hv : IIn h v l) :
    Wc pr (.func 31) [v] h fun r h' => (∃ F W bo, r = .tuple #[.slice (ownB W bo) W.length W.length, .int .i64 0] ∧ (W ≠ [] → h.next ≤ bo ∧ bo < h'.next ∧ h'.get bo = some (.cells (flatE encV W) 69 true)) ∧ elsV h.next h' W F ∧ (∀ f ∈ F, f ∈ facN) ∧ prodN F = valN l ∧ isG (valN l) F) ∧ Gr h h' := by
  have hv0 := hv
  obtain ⟨al, cl, rfl, _⟩ := hv
  refine wc_func Tryz.func31 rfl rfl rfl rfl ?_
  generalize hZ : ints .u8 (numD 0) = Z
  have zv : zeroV Tryz.prog 87 = some (.agg Z.toArray) := by rw [← hZ]; exact zv87
  repeat' (first
    | ((with_reducible first | refine optP_id ?_ | refine condP_id ?_ | refine resP_id ?_ | refine callT_of ?_); conv => { arg 1; simp (disch := first | assumption | omega) only [push_cast, ↓reduceIte, reduceIte, Nat.reduceEqDiff, Nat.reduceAdd, Nat.reduceSub, Nat.reduceMul, Nat.reduceBEq, Int.reduceNeg, zv] }; first | ((with_reducible refine optP_id ?_); refine optP_some ?_) | ((with_reducible refine condP_id ?_); first | refine qcy ?_ | refine qcx ?_ | refine qco ?_ | refine condP_decn (fun hc => ?_) (fun hc => ?_) | refine condP_dec (fun hc => ?_) (fun hc => ?_) | refine qct ?_ | refine qcf ?_ | refine condP_bool (fun hc => ?_) (fun hc => ?_)) | ((with_reducible refine resP_id ?_); refine resP_two ?_) | ((with_reducible refine callT_to ?_); first | refine callP_plain ?_ | refine callP_yield ?_ | (refine callP_func ?_; conv => { arg 3; simp only [push_cast] })))
    | refine wk_seq ?_ | refine wk_region ?_ | refine wk_block ?_ | refine wk_inBlock ?_ | refine wk_skip ?_ | refine wk_draw (by kernel_rfl) (by decide +kernel) ?_ | refine wk_drawn [(0, 4)] (by kernel_rfl) (by decide +kernel) ?_ | refine wo_nil ?_ | refine wk_exit ?_ | refine exitK_code ?_ | refine exitK_hit ?_ | refine exitK_miss rfl ?_ | refine exitK_inLoop ?_ | refine wk_cond ?_ | refine wk_ret ?_ | refine wk_nil ?_ | refine wo_dst rfl (opR_call ?_) | refine wo_nodst (opR_call ?_) | refine wo_dst rfl (opR_pure ?_) | refine wo_nodst (opR_pure ?_)
    | refine wd_dst rfl (opR_call ?_) | refine wd_nodst (opR_call ?_) | refine wd_dst rfl (opR_pick ?_) | refine wd_guard rfl rfl ?_ | refine wd_guardn rfl ?_ | refine wd_dst rfl (opR_pure ?_) | refine wd_nodst (opR_pure ?_) | refine opR_call ?_ | refine opR_pick ?_ | refine opR_pure ?_ | (refine wd_nil ?_; refine doneD rfl rfl ?_ ?_) | refine again_nil | refine again_cons ?_ ?_ | refine again_plain rfl rfl rfl ?_ | refine again_guard rfl rfl rfl rfl ?_ | exact same_undef | exact same_of rfl rfl | refine give_ret ?_ | refine give_end ?_)
  refine (regular_w l hl ll _ _ hv0).mono ?_
  rintro _ h1 ⟨hr, g1⟩; have n1 := g1.1; have k1 := g1.2; try simp only [next_new, next_set] at n1 k1
  rcases hr with ⟨q, _⟩ | ⟨_, ⟨a, b, c, _, a9, b9, c9, rfl⟩ | ⟨q, _⟩⟩
  · exact absurd q hl0
  rotate_left
  · exact (irr_dvd q hreg).elim
  have wn := fun H hi => numfrom_w l hl.1 0 (by omega) (.slice al l.length cl) H hi
  rw [Nat.pow_zero, Nat.mul_one] at wn
  have xl := valN_lt16 hl ll
  have xp := valN_pos hl hl0
  generalize hX : valN l = X at *
  rw [num_cells] at wn
  repeat' (first
    | ((with_reducible first | refine optP_id ?_ | refine condP_id ?_ | refine resP_id ?_ | refine callT_of ?_); conv => { arg 1; simp (disch := first | assumption | omega) only [push_cast, ↓reduceIte, reduceIte, Nat.reduceEqDiff, Nat.reduceAdd, Nat.reduceSub, Nat.reduceMul, Nat.reduceBEq, Int.reduceNeg, zv, k1] }; first | ((with_reducible refine optP_id ?_); refine optP_some ?_) | ((with_reducible refine condP_id ?_); first | refine qcy ?_ | refine qcx ?_ | refine qco ?_ | refine condP_decn (fun hc => ?_) (fun hc => ?_) | refine condP_dec (fun hc => ?_) (fun hc => ?_) | refine qct ?_ | refine qcf ?_ | refine condP_bool (fun hc => ?_) (fun hc => ?_)) | ((with_reducible refine resP_id ?_); refine resP_two ?_) | ((with_reducible refine callT_to ?_); first | refine callP_plain ?_ | refine callP_yield ?_ | (refine callP_func ?_; conv => { arg 3; simp only [push_cast] })))
    | refine wk_seq ?_ | refine wk_region ?_ | refine wk_block ?_ | refine wk_inBlock ?_ | refine wk_skip ?_ | refine wk_draw (by kernel_rfl) (by decide +kernel) ?_ | refine wk_drawn [(0, 4)] (by kernel_rfl) (by decide +kernel) ?_ | refine wo_nil ?_ | refine wk_exit ?_ | refine exitK_code ?_ | refine exitK_hit ?_ | refine exitK_miss rfl ?_ | refine exitK_inLoop ?_ | refine wk_cond ?_ | refine wk_ret ?_ | refine wk_nil ?_ | refine wo_dst rfl (opR_call ?_) | refine wo_nodst (opR_call ?_) | refine wo_dst rfl (opR_pure ?_) | refine wo_nodst (opR_pure ?_)
    | refine wd_dst rfl (opR_call ?_) | refine wd_nodst (opR_call ?_) | refine wd_dst rfl (opR_pick ?_) | refine wd_guard rfl rfl ?_ | refine wd_guardn rfl ?_ | refine wd_dst rfl (opR_pure ?_) | refine wd_nodst (opR_pure ?_) | refine opR_call ?_ | refine opR_pick ?_ | refine opR_pure ?_ | (refine wd_nil ?_; refine doneD rfl rfl ?_ ?_) | refine again_nil | refine again_cons ?_ ?_ | refine again_plain rfl rfl rfl ?_ | refine again_guard rfl rfl rfl rfl ?_ | exact same_undef | exact same_of rfl rfl | refine give_ret ?_ | refine give_end ?_)
  refine (wn _ (SlIn.gr hv0 (by (repeat (first | exact Gr.refl _ | assumption | (refine Gr.trans ?_ (by assumption)) | refine Gr.set ?_ (by first | exact Nat.le_refl _ | omega | (simp only [next_new, next_set]; omega)) _ | refine Gr.new ?_ _))))).mono ?_
  rintro _ h2 ⟨rfl, g2⟩; have n2 := g2.1; have k2 := g2.2; try simp only [next_new, next_set] at n2 k2
  have hcz : takeN 146 (ints .u8 (numD X)) = some (ints .u8 (numD X)) := num_cut _
  have hfz := ints_flat .u8 (numD X)
  have e9 : ((h2.new (.cells Z 87 true)).new (.cells [.int .i64 0] 3 true)).get h2.next = some (.cells Z 87 true) := by simp (disch := first | assumption | omega) only [push_cast, ↓reduceIte, reduceIte, Nat.reduceEqDiff, Nat.reduceAdd, Nat.reduceSub, Nat.reduceMul, Nat.reduceBEq, Int.reduceNeg]
  have hst := storeK_all (num_ne X) (num_len X) hfz e9 (over_all (by rw [← hZ, num_len, num_len]))
  have hlen : ∀ (F : List Nat), (∀ f ∈ F, f ∈ facN) → (∃ M, 0 < M ∧ M * prodN F = X) → F.length ≤ 96 := fun F hF ⟨M, hM, e⟩ => facs_len hF e hM xl
  have xl146 : ∀ R, R ≤ X → R < 60 ^ 146 := fun R hR => Nat.lt_of_le_of_lt hR (Nat.lt_of_lt_of_le xl (Nat.pow_le_pow_right (by decide) (by omega)))
  clear xl
  generalize hCX : ints .u8 (numD X) = CX at *
  repeat' (first
    | ((with_reducible first | refine optP_id ?_ | refine condP_id ?_ | refine resP_id ?_ | refine callT_of ?_); conv => { arg 1; simp (disch := first | assumption | omega) only [push_cast, ↓reduceIte, reduceIte, Nat.reduceEqDiff, Nat.reduceAdd, Nat.reduceSub, Nat.reduceMul, Nat.reduceBEq, Int.reduceNeg, zv, k2, hst, hcz, hfz] }; first | ((with_reducible refine optP_id ?_); refine optP_some ?_) | ((with_reducible refine condP_id ?_); first | refine qcy ?_ | refine qcx ?_ | refine qco ?_ | refine condP_decn (fun hc => ?_) (fun hc => ?_) | refine condP_dec (fun hc => ?_) (fun hc => ?_) | refine qct ?_ | refine qcf ?_ | refine condP_bool (fun hc => ?_) (fun hc => ?_)) | ((with_reducible refine resP_id ?_); refine resP_two ?_) | ((with_reducible refine callT_to ?_); first | refine callP_plain ?_ | refine callP_yield ?_ | (refine callP_func ?_; conv => { arg 3; simp only [push_cast] })))
    | refine wk_seq ?_ | refine wk_region ?_ | refine wk_block ?_ | refine wk_inBlock ?_ | refine wk_skip ?_ | refine wk_draw (by kernel_rfl) (by decide +kernel) ?_ | refine wk_drawn [(0, 4)] (by kernel_rfl) (by decide +kernel) ?_ | refine wo_nil ?_ | refine wk_exit ?_ | refine exitK_code ?_ | refine exitK_hit ?_ | refine exitK_miss rfl ?_ | refine exitK_inLoop ?_ | refine wk_cond ?_ | refine wk_ret ?_ | refine wk_nil ?_ | refine wo_dst rfl (opR_call ?_) | refine wo_nodst (opR_call ?_) | refine wo_dst rfl (opR_pure ?_) | refine wo_nodst (opR_pure ?_)
    | refine wd_dst rfl (opR_call ?_) | refine wd_nodst (opR_call ?_) | refine wd_dst rfl (opR_pick ?_) | refine wd_guard rfl rfl ?_ | refine wd_guardn rfl ?_ | refine wd_dst rfl (opR_pure ?_) | refine wd_nodst (opR_pure ?_) | refine opR_call ?_ | refine opR_pick ?_ | refine opR_pure ?_ | (refine wd_nil ?_; refine doneD rfl rfl ?_ ?_) | refine again_nil | refine again_cons ?_ ?_ | refine again_plain rfl rfl rfl ?_ | refine again_guard rfl rfl rfl rfl ?_ | exact same_undef | exact same_of rfl rfl | refine give_ret ?_ | refine give_end ?_)
  refine fac2_w ?_
  rintro _ h3 ⟨rfl, hfi, n3, g3⟩
  have k3 := g3.2
  simp only [next_new, next_set] at n3 k3 hfi
  repeat' (first
    | ((with_reducible first | refine optP_id ?_ | refine condP_id ?_ | refine resP_id ?_ | refine callT_of ?_); conv => { arg 1; simp (disch := first | assumption | omega) only [push_cast, ↓reduceIte, reduceIte, Nat.reduceEqDiff, Nat.reduceAdd, Nat.reduceSub, Nat.reduceMul, Nat.reduceBEq, Int.reduceNeg, k3] }; first | ((with_reducible refine optP_id ?_); refine optP_some ?_) | ((with_reducible refine condP_id ?_); first | refine qcy ?_ | refine qcx ?_ | refine qco ?_ | refine condP_decn (fun hc => ?_) (fun hc => ?_) | refine condP_dec (fun hc => ?_) (fun hc => ?_) | refine qct ?_ | refine qcf ?_ | refine condP_bool (fun hc => ?_) (fun hc => ?_)) | ((with_reducible refine resP_id ?_); refine resP_two ?_) | ((with_reducible refine callT_to ?_); first | refine callP_plain ?_ | refine callP_yield ?_ | (refine callP_func ?_; conv => { arg 3; simp only [push_cast] })))
    | refine wk_seq ?_ | refine wk_region ?_ | refine wk_block ?_ | refine wk_inBlock ?_ | refine wk_skip ?_ | refine wk_draw (by kernel_rfl) (by decide +kernel) ?_ | refine wk_drawn [(0, 4)] (by kernel_rfl) (by decide +kernel) ?_ | refine wo_nil ?_ | refine wk_exit ?_ | refine exitK_code ?_ | refine exitK_hit ?_ | refine exitK_miss rfl ?_ | refine exitK_inLoop ?_ | refine wk_cond ?_ | refine wk_ret ?_ | refine wk_nil ?_ | refine wo_dst rfl (opR_call ?_) | refine wo_nodst (opR_call ?_) | refine wo_dst rfl (opR_pure ?_) | refine wo_nodst (opR_pure ?_)
    | refine wd_dst rfl (opR_call ?_) | refine wd_nodst (opR_call ?_) | refine wd_dst rfl (opR_pick ?_) | refine wd_guard rfl rfl ?_ | refine wd_guardn rfl ?_ | refine wd_dst rfl (opR_pure ?_) | refine wd_nodst (opR_pure ?_) | refine opR_call ?_ | refine opR_pick ?_ | refine opR_pure ?_ | (refine wd_nil ?_; refine doneD rfl rfl ?_ ?_) | refine again_nil | refine again_cons ?_ ?_ | refine again_plain rfl rfl rfl ?_ | refine again_guard rfl rfl rfl rfl ?_ | exact same_undef | exact same_of rfl rfl | refine give_ret ?_ | refine give_end ?_)
  refine (backi_w _ _ _ _).mono ?_
  rintro _ h4 ⟨rfl, n4, q4, g4⟩
  have k4 := g4.2
  repeat' (first
    | ((with_reducible first | refine optP_id ?_ | refine condP_id ?_ | refine resP_id ?_ | refine callT_of ?_); conv => { arg 1; simp (disch := first | assumption | omega) only [push_cast, ↓reduceIte, reduceIte, Nat.reduceEqDiff, Nat.reduceAdd, Nat.reduceSub, Nat.reduceMul, Nat.reduceBEq, Int.reduceNeg, k4] }; first | ((with_reducible refine optP_id ?_); refine optP_some ?_) | ((with_reducible refine condP_id ?_); first | refine qcy ?_ | refine qcx ?_ | refine qco ?_ | refine condP_decn (fun hc => ?_) (fun hc => ?_) | refine condP_dec (fun hc => ?_) (fun hc => ?_) | refine qct ?_ | refine qcf ?_ | refine condP_bool (fun hc => ?_) (fun hc => ?_)) | ((with_reducible refine resP_id ?_); refine resP_two ?_) | ((with_reducible refine callT_to ?_); first | refine callP_plain ?_ | refine callP_yield ?_ | (refine callP_func ?_; conv => { arg 3; simp only [push_cast] })))
    | refine wk_seq ?_ | refine wk_region ?_ | refine wk_block ?_ | refine wk_inBlock ?_ | refine wk_skip ?_ | refine wk_draw (by kernel_rfl) (by decide +kernel) ?_ | refine wk_drawn [(0, 4)] (by kernel_rfl) (by decide +kernel) ?_ | refine wo_nil ?_ | refine wk_exit ?_ | refine exitK_code ?_ | refine exitK_hit ?_ | refine exitK_miss rfl ?_ | refine exitK_inLoop ?_ | refine wk_cond ?_ | refine wk_ret ?_ | refine wk_nil ?_ | refine wo_dst rfl (opR_call ?_) | refine wo_nodst (opR_call ?_) | refine wo_dst rfl (opR_pure ?_) | refine wo_nodst (opR_pure ?_)
    | refine wd_dst rfl (opR_call ?_) | refine wd_nodst (opR_call ?_) | refine wd_dst rfl (opR_pick ?_) | refine wd_guard rfl rfl ?_ | refine wd_guardn rfl ?_ | refine wd_dst rfl (opR_pure ?_) | refine wd_nodst (opR_pure ?_) | refine opR_call ?_ | refine opR_pick ?_ | refine opR_pure ?_ | (refine wd_nil ?_; refine doneD rfl rfl ?_ ?_) | refine again_nil | refine again_cons ?_ ?_ | refine again_plain rfl rfl rfl ?_ | refine again_guard rfl rfl rfl rfl ?_ | exact same_undef | exact same_of rfl rfl | refine give_ret ?_ | refine give_end ?_)
  have c8 : h4.get h1.next = some (.cells [.slice none 0 0] 46 true) := by rw [k4 _ (by omega), k3 _ (by omega)]; simp (disch := first | assumption | omega) only [push_cast, ↓reduceIte, reduceIte, Nat.reduceEqDiff, Nat.reduceAdd, Nat.reduceSub, Nat.reduceMul, Nat.reduceBEq, Int.reduceNeg, k2]
  have c9 : h4.get h2.next = some (.cells CX 87 true) := by rw [k4 _ (by omega), k3 _ (by omega)]; simp (disch := first | assumption | omega) only [push_cast, ↓reduceIte, reduceIte, Nat.reduceEqDiff, Nat.reduceAdd, Nat.reduceSub, Nat.reduceMul, Nat.reduceBEq, Int.reduceNeg]
  have c10 : h4.get (h2.next + 1) = some (.cells [.int .i64 0] 3 true) := by rw [k4 _ (by omega), k3 _ (by omega)]; simp (disch := first | assumption | omega) only [push_cast, ↓reduceIte, reduceIte, Nat.reduceEqDiff, Nat.reduceAdd, Nat.reduceSub, Nat.reduceMul, Nat.reduceBEq, Int.reduceNeg]
  have c11 : h4.get (h2.next + 1 + 1) = some (.cells facL.cells 3 false) := by rw [k4 _ (by omega)]; exact hfi
  have gA : Gr h h4 := by (repeat (first | exact Gr.refl _ | assumption | (refine Gr.trans ?_ (by assumption)) | refine Gr.set ?_ (by first | exact Nat.le_refl _ | omega | (simp only [next_new, next_set]; omega)) _ | refine Gr.new ?_ _))
  refine wk_rangeL rfl ?_
  intro L H lp nH oH dH lH
  conv => { arg 2; simp (disch := first | assumption | omega) only [push_cast, ↓reduceIte, reduceIte, Nat.reduceEqDiff, Nat.reduceAdd, Nat.reduceSub, Nat.reduceMul, Nat.reduceBEq, Int.reduceNeg] }
  refine callP_func ?_
  conv => { arg 3; simp only [push_cast] }
  refine (iteri_w facI (h4.next + 1) h3.next (.slice (some ⟨h2.next + 1 + 1, 1, none⟩) 29 29) H (by decide)
    (fun m H' => H.next ≤ H'.next ∧ (∀ x, x < H.next → x ≠ h4.next + 1 → x ≠ h1.next → x ≠ h2.next → x ≠ h2.next + 1 → H'.get x = H.get x) ∧ L H' .ready none ∧ ∃ (R : Nat) (F : List Nat) (W : List (Value × Value)) (bo t : Nat), R * prodN F = X ∧ (∀ G, isG R G → isG X (F ++ G)) ∧ 0 < R ∧ (∀ f ∈ F, f ∈ facN) ∧ (∀ f ∈ facN.drop m, R % f ≠ 0) ∧ H'.get h2.next = some (.cells (ints .u8 (numD R)) 87 true) ∧ H'.get (h2.next + 1) = some (.cells [.int .i64 (t : Int)] 3 true) ∧ H'.get h1.next = some (.cells [.slice (ownB W bo) W.length W.length] 46 true) ∧ (W ≠ [] → H.next ≤ bo ∧ bo < H'.next ∧ H'.get bo = some (.cells (flatE encV W) 69 true)) ∧ elsV H.next H' W F)
    (fun H' => False)
    ⟨Nat.le_refl _, fun _ _ _ _ _ _ => rfl, lH, X, [], [], 0, 0, Nat.mul_one X, fun G hG => hG, xp, fun _ hf => (nomatch hf), fun _ hf => (nomatch hf), by rw [hCX, oH _ (by omega)]; exact c9, by rw [oH _ (by omega)]; exact c10, by rw [oH _ (by omega)]; exact c8, fun hn => absurd rfl hn, elsV_nil _ _⟩ ?_ ?_).mono ?_
  · rintro m H' ⟨p1, p2, p3, _⟩
    refine ⟨by omega, by rw [p2 _ (by omega) (by omega) (by omega) (by omega) (by omega), oH _ (by omega)]; exact q4, facin (by omega) (by rw [p2 _ (by omega) (by omega) (by omega) (by omega) (by omega), oH _ (by omega)]; exact c11)⟩
  · rintro m hm H' ⟨p1, p2, p3, R, F, W, bo, t, hRF, hGr, hR0, hF, hRm, p9, p10, p8, hB, hel⟩
    have hm2 : m < facN.length := hm
    have hfg := fac_get m hm hm2
    have hfm : facN[m] ∈ facN := List.getElem_mem hm2
    have hdr : facN.drop m = facN[m] :: facN.drop (m + 1) := List.drop_eq_getElem_cons hm2
    have hbig : ∀ g ∈ facN, facN[m] < g → R % g ≠ 0 := fun g hg hlt => hRm g (fac_sorted m hm2 g hg hlt)
    generalize hxe : facI[m] = x at *
    generalize facN[m] = f at *
    subst hfg
    obtain ⟨f2, f81, _⟩ := fac_reg f hfm
    have hRX : R < 60 ^ 146 := xl146 R (Nat.le_trans (Nat.le_mul_of_pos_right R (Nat.pos_of_ne_zero fun hh => by rw [hh, Nat.mul_zero] at hRF; omega)) (Nat.le_of_eq hRF))
    have ww := fun HH => without_w R f hR0 hRX f2 (by omega) HH
    rw [num_cells] at ww
    have hcR : takeN 146 (ints .u8 (numD R)) = some (ints .u8 (numD R)) := num_cut _
    have hlR : (ints .u8 (numD R)).length = 146 := num_len R
    clear hRX
    generalize ints .u8 (numD R) = CR at *
    refine lp.yield p3 rfl rfl ?_
    rw [putLs2]
    repeat' (first
    | ((with_reducible first | refine optP_id ?_ | refine condP_id ?_ | refine resP_id ?_ | refine callT_of ?_); conv => { arg 1; simp (disch := first | assumption | omega) only [push_cast, ↓reduceIte, reduceIte, Nat.reduceEqDiff, Nat.reduceAdd, Nat.reduceSub, Nat.reduceMul, Nat.reduceBEq, Int.reduceNeg] }; first | ((with_reducible refine optP_id ?_); refine optP_some ?_) | ((with_reducible refine condP_id ?_); first | refine qcy ?_ | refine qcx ?_ | refine qco ?_ | refine condP_decn (fun hc => ?_) (fun hc => ?_) | refine condP_dec (fun hc => ?_) (fun hc => ?_) | refine qct ?_ | refine qcf ?_ | refine condP_bool (fun hc => ?_) (fun hc => ?_)) | ((with_reducible refine resP_id ?_); refine resP_two ?_) | ((with_reducible refine callT_to ?_); first | refine callP_plain ?_ | refine callP_yield ?_ | (refine callP_func ?_; conv => { arg 3; simp only [push_cast] })))
    | refine wk_seq ?_ | refine wk_region ?_ | refine wk_block ?_ | refine wk_inBlock ?_ | refine wk_skip ?_ | refine wk_draw (by kernel_rfl) (by decide +kernel) ?_ | refine wk_drawn [(0, 4)] (by kernel_rfl) (by decide +kernel) ?_ | refine wo_nil ?_ | refine wk_exit ?_ | refine exitK_code ?_ | refine exitK_hit ?_ | refine exitK_miss rfl ?_ | refine exitK_inLoop ?_ | refine wk_cond ?_ | refine wk_ret ?_ | refine wk_nil ?_ | refine wo_dst rfl (opR_call ?_) | refine wo_nodst (opR_call ?_) | refine wo_dst rfl (opR_pure ?_) | refine wo_nodst (opR_pure ?_)
    | refine wd_dst rfl (opR_call ?_) | refine wd_nodst (opR_call ?_) | refine wd_dst rfl (opR_pick ?_) | refine wd_guard rfl rfl ?_ | refine wd_guardn rfl ?_ | refine wd_dst rfl (opR_pure ?_) | refine wd_nodst (opR_pure ?_) | refine opR_call ?_ | refine opR_pick ?_ | refine opR_pure ?_ | (refine wd_nil ?_; refine doneD rfl rfl ?_ ?_) | refine again_nil | refine again_cons ?_ ?_ | refine again_plain rfl rfl rfl ?_ | refine again_guard rfl rfl rfl rfl ?_ | exact same_undef | exact same_of rfl rfl | refine give_ret ?_ | refine give_end ?_)
    refine lp.start rfl p3 ?_
    intro H2 m1 m2 m3
    have d9 : H2.get h2.next = some (.cells CR 87 true) := by rw [m2 _ (by omega)]; exact p9
    have d10 : H2.get (h2.next + 1) = some (.cells [.int .i64 (t : Int)] 3 true) := by rw [m2 _ (by omega)]; exact p10
    have d8 : H2.get h1.next = some (.cells [.slice (ownB W bo) W.length W.length] 46 true) := by rw [m2 _ (by omega)]; exact p8
    repeat' (first
    | ((with_reducible first | refine optP_id ?_ | refine condP_id ?_ | refine resP_id ?_ | refine callT_of ?_); conv => { arg 1; simp (disch := first | assumption | omega) only [push_cast, ↓reduceIte, reduceIte, Nat.reduceEqDiff, Nat.reduceAdd, Nat.reduceSub, Nat.reduceMul, Nat.reduceBEq, Int.reduceNeg, d9, hcR] }; first | ((with_reducible refine optP_id ?_); refine optP_some ?_) | ((with_reducible refine condP_id ?_); first | refine qcy ?_ | refine qcx ?_ | refine qco ?_ | refine condP_decn (fun hc => ?_) (fun hc => ?_) | refine condP_dec (fun hc => ?_) (fun hc => ?_) | refine qct ?_ | refine qcf ?_ | refine condP_bool (fun hc => ?_) (fun hc => ?_)) | ((with_reducible refine resP_id ?_); refine resP_two ?_) | ((with_reducible refine callT_to ?_); first | refine callP_plain ?_ | refine callP_yield ?_ | (refine callP_func ?_; conv => { arg 3; simp only [push_cast] })))
    | refine wk_seq ?_ | refine wk_region ?_ | refine wk_block ?_ | refine wk_inBlock ?_ | refine wk_skip ?_ | refine wk_draw (by kernel_rfl) (by decide +kernel) ?_ | refine wk_drawn [(0, 4)] (by kernel_rfl) (by decide +kernel) ?_ | refine wo_nil ?_ | refine wk_exit ?_ | refine exitK_code ?_ | refine exitK_hit ?_ | refine exitK_miss rfl ?_ | refine exitK_inLoop ?_ | refine wk_cond ?_ | refine wk_ret ?_ | refine wk_nil ?_ | refine wo_dst rfl (opR_call ?_) | refine wo_nodst (opR_call ?_) | refine wo_dst rfl (opR_pure ?_) | refine wo_nodst (opR_pure ?_)
    | refine wd_dst rfl (opR_call ?_) | refine wd_nodst (opR_call ?_) | refine wd_dst rfl (opR_pick ?_) | refine wd_guard rfl rfl ?_ | refine wd_guardn rfl ?_ | refine wd_dst rfl (opR_pure ?_) | refine wd_nodst (opR_pure ?_) | refine opR_call ?_ | refine opR_pick ?_ | refine opR_pure ?_ | (refine wd_nil ?_; refine doneD rfl rfl ?_ ?_) | refine again_nil | refine again_cons ?_ ?_ | refine again_plain rfl rfl rfl ?_ | refine again_guard rfl rfl rfl rfl ?_ | exact same_undef | exact same_of rfl rfl | refine give_ret ?_ | refine give_end ?_)
    refine (ww _).mono ?_
    rintro _ h5 ⟨⟨R', t', rfl, hR, hmod, hR0', ht⟩, g5⟩; have n5 := g5.1; have k5 := g5.2; try simp only [next_new, next_set] at n5 k5
    rw [num_cells]
    have e9 : h5.get h2.next = some (.cells CR 87 true) := by rw [k5 _ (by omega)]; exact d9
    have e10 : h5.get (h2.next + 1) = some (.cells [.int .i64 (t : Int)] 3 true) := by rw [k5 _ (by omega)]; exact d10
    have e8 : h5.get h1.next = some (.cells [.slice (ownB W bo) W.length W.length] 46 true) := by rw [k5 _ (by omega)]; exact d8
    have hst2 := storeK_all (num_ne R') (num_len R') (ints_flat .u8 (numD R')) e9 (over_all (by rw [hlR, num_len]))
    have hcR' : takeN 146 (ints .u8 (numD R')) = some (ints .u8 (numD R')) := num_cut _
    have hRF' : R' * (prodN F * f ^ t') = X := by rw [← hRF, hR]; generalize prodN F = A; generalize f ^ t' = B; grind
    have hpw : ∀ q, q ≤ t' → ∃ M, 0 < M ∧ M * (prodN F * f ^ q) = X := fun q hq => ⟨R' * f ^ (t' - q), Nat.mul_pos hR0' (Nat.pow_pos (by omega)), by
      rw [← hRF']
      have : f ^ t' = f ^ (t' - q) * f ^ q := by rw [← Nat.pow_add]; congr 1; omega
      rw [this]
      generalize f ^ (t' - q) = A; generalize f ^ q = B; generalize prodN F = C; grind⟩
    have hB5 : W ≠ [] → H.next ≤ bo ∧ bo < h5.next ∧ h5.get bo = some (.cells (flatE encV W) 69 true) := fun hn => by
      obtain ⟨q1, q2, q3⟩ := hB hn
      exact ⟨q1, by omega, by rw [k5 _ (by omega), m2 _ (by omega)]; exact q3⟩
    have hel5 : elsV H.next h5 W F := hel.keep ⟨by omega, fun b hb hb2 C rw' hC => by rw [k5 _ (by omega), m2 _ (by omega)]⟩
    generalize hCR' : ints .u8 (numD R') = CR' at *
    repeat' (first
    | ((with_reducible first | refine optP_id ?_ | refine condP_id ?_ | refine resP_id ?_ | refine callT_of ?_); conv => { arg 1; simp (disch := first | assumption | omega) only [push_cast, ↓reduceIte, reduceIte, Nat.reduceEqDiff, Nat.reduceAdd, Nat.reduceSub, Nat.reduceMul, Nat.reduceBEq, Int.reduceNeg, hst2, hcR', e10, e9] }; first | ((with_reducible refine optP_id ?_); refine optP_some ?_) | ((with_reducible refine condP_id ?_); first | refine qcy ?_ | refine qcx ?_ | refine qco ?_ | refine condP_decn (fun hc => ?_) (fun hc => ?_) | refine condP_dec (fun hc => ?_) (fun hc => ?_) | refine qct ?_ | refine qcf ?_ | refine condP_bool (fun hc => ?_) (fun hc => ?_)) | ((with_reducible refine resP_id ?_); refine resP_two ?_) | ((with_reducible refine callT_to ?_); first | refine callP_plain ?_ | refine callP_yield ?_ | (refine callP_func ?_; conv => { arg 3; simp only [push_cast] })))
    | refine wk_seq ?_ | refine wk_region ?_ | refine wk_block ?_ | refine wk_inBlock ?_ | refine wk_skip ?_ | refine wk_draw (by kernel_rfl) (by decide +kernel) ?_ | refine wk_drawn [(0, 4)] (by kernel_rfl) (by decide +kernel) ?_ | refine wo_nil ?_ | refine wk_exit ?_ | refine exitK_code ?_ | refine exitK_hit ?_ | refine exitK_miss rfl ?_ | refine exitK_inLoop ?_ | refine wk_cond ?_ | refine wk_ret ?_ | refine wk_nil ?_ | refine wo_dst rfl (opR_call ?_) | refine wo_nodst (opR_call ?_) | refine wo_dst rfl (opR_pure ?_) | refine wo_nodst (opR_pure ?_)
    | refine wd_dst rfl (opR_call ?_) | refine wd_nodst (opR_call ?_) | refine wd_dst rfl (opR_pick ?_) | refine wd_guard rfl rfl ?_ | refine wd_guardn rfl ?_ | refine wd_dst rfl (opR_pure ?_) | refine wd_nodst (opR_pure ?_) | refine opR_call ?_ | refine opR_pick ?_ | refine opR_pure ?_ | (refine wd_nil ?_; refine doneD rfl rfl ?_ ?_) | refine again_nil | refine again_cons ?_ ?_ | refine again_plain rfl rfl rfl ?_ | refine again_guard rfl rfl rfl rfl ?_ | exact same_undef | exact same_of rfl rfl | refine give_ret ?_ | refine give_end ?_)
    refine wk_loop (fun n E G => ∃ (q : Nat) (F' : List Nat) (W' : List (Value × Value)) (bo' : Nat), n = t' - q ∧ q ≤ t' ∧ h5.next ≤ G.next ∧ (∀ x, x < H.next → x ≠ h4.next + 1 → x ≠ h1.next → x ≠ h2.next → x ≠ h2.next + 1 → G.get x = H.get x) ∧ G.get (h4.next + 1) = H2.get (h4.next + 1) ∧ (∀ g ∈ F', g ∈ facN) ∧ prodN F' = prodN F * f ^ q ∧ (∀ K, isG (R' * f ^ (t' - q)) K → isG X (F' ++ K)) ∧ G.get h2.next = some (.cells CR' 87 true) ∧ G.get (h2.next + 1) = some (.cells [.int .i64 (t' : Int)] 3 true) ∧ G.get h1.next = some (.cells [.slice (ownB W' bo') W'.length W'.length] 46 true) ∧ (W' ≠ [] → H.next ≤ bo' ∧ bo' < G.next ∧ G.get bo' = some (.cells (flatE encV W') 69 true)) ∧ elsV H.next G W' F' ∧ E.look 8 top = .pointer (some ⟨h1.next, 0, none⟩) ∧ E.look 9 top = .pointer (some ⟨h2.next, 0, none⟩) ∧ E.look 10 top = .pointer (some ⟨h2.next + 1, 0, none⟩) ∧ E.look 12 top = .int .i64 (f : Int) ∧ E.look 35 top = .int .i64 (t' : Int) ∧ E.look 36 top = .int .i64 (q : Int)) t'
      ⟨0, F, W, bo, rfl, by omega, by simp only [next_set]; omega, fun x hx n1 n2 n3 n4 => by
        rw [get_set_ne (Ne.symm n4), get_set_ne (Ne.symm n3), k5 _ (by omega), m2 _ n1, p2 _ hx n1 n2 n3 n4], by rw [get_set_ne (by omega), get_set_ne (by omega), k5 _ (by omega)], hF, by rw [Nat.pow_zero, Nat.mul_one], fun K hK => hGr K (by rw [hR]; exact hK), by simp (disch := first | assumption | omega) only [push_cast, ↓reduceIte, reduceIte, Nat.reduceEqDiff, Nat.reduceAdd, Nat.reduceSub, Nat.reduceMul, Nat.reduceBEq, Int.reduceNeg], by simp (disch := first | assumption | omega) only [push_cast, ↓reduceIte, reduceIte, Nat.reduceEqDiff, Nat.reduceAdd, Nat.reduceSub, Nat.reduceMul, Nat.reduceBEq, Int.reduceNeg], by simp (disch := first | assumption | omega) only [push_cast, ↓reduceIte, reduceIte, Nat.reduceEqDiff, Nat.reduceAdd, Nat.reduceSub, Nat.reduceMul, Nat.reduceBEq, Int.reduceNeg]; exact e8, fun hn => by
        obtain ⟨q1, q2, q3⟩ := hB5 hn
        exact ⟨q1, by simp only [next_set]; exact q2, by rw [get_set_ne (by omega), get_set_ne (by omega)]; exact q3⟩, hel5.keep ⟨by simp only [next_set]; omega, fun b hb hb2 C rw' hC => by rw [get_set_ne (by omega), get_set_ne (by omega)]⟩, by simp (disch := first | assumption | omega) only [push_cast, ↓reduceIte, reduceIte, Nat.reduceEqDiff, Nat.reduceAdd, Nat.reduceSub, Nat.reduceMul, Nat.reduceBEq, Int.reduceNeg], by simp (disch := first | assumption | omega) only [push_cast, ↓reduceIte, reduceIte, Nat.reduceEqDiff, Nat.reduceAdd, Nat.reduceSub, Nat.reduceMul, Nat.reduceBEq, Int.reduceNeg], by simp (disch := first | assumption | omega) only [push_cast, ↓reduceIte, reduceIte, Nat.reduceEqDiff, Nat.reduceAdd, Nat.reduceSub, Nat.reduceMul, Nat.reduceBEq, Int.reduceNeg], by simp (disch := first | assumption | omega) only [push_cast, ↓reduceIte, reduceIte, Nat.reduceEqDiff, Nat.reduceAdd, Nat.reduceSub, Nat.reduceMul, Nat.reduceBEq, Int.reduceNeg], by simp (disch := first | assumption | omega) only [push_cast, ↓reduceIte, reduceIte, Nat.reduceEqDiff, Nat.reduceAdd, Nat.reduceSub, Nat.reduceMul, Nat.reduceBEq, Int.reduceNeg], by simp (disch := first | assumption | omega) only [push_cast, ↓reduceIte, reduceIte, Nat.reduceEqDiff, Nat.reduceAdd, Nat.reduceSub, Nat.reduceMul, Nat.reduceBEq, Int.reduceNeg, Int.natCast_zero]⟩ ?_
    rintro n E G ⟨q, F', W', bo', rfl, hq, gn, gk, gl, hF', hP', hK', x9, x10, x8, hB', hel', y8, y9, y10, y12, y35, y36⟩ next
    have hF96 := hlen F' hF' (by rw [hP']; exact hpw q hq)
    have hWl : W'.length ≤ 96 := by have := hel'.1; omega
    by_cases hlt : q < t'
    · have ilt : (q : Int) < (t' : Int) := by omega
      repeat' (first
    | ((with_reducible first | refine optP_id ?_ | refine condP_id ?_ | refine resP_id ?_ | refine callT_of ?_); conv => { arg 1; simp (disch := first | assumption | omega) only [push_cast, ↓reduceIte, reduceIte, Nat.reduceEqDiff, Nat.reduceAdd, Nat.reduceSub, Nat.reduceMul, Nat.reduceBEq, Int.reduceNeg, x8, y8, y9, y10, y12, y35, y36] }; first | ((with_reducible refine optP_id ?_); refine optP_some ?_) | ((with_reducible refine condP_id ?_); first | refine qcy ?_ | refine qcx ?_ | refine qco ?_ | refine condP_decn (fun hc => ?_) (fun hc => ?_) | refine condP_dec (fun hc => ?_) (fun hc => ?_) | refine qct ?_ | refine qcf ?_ | refine condP_bool (fun hc => ?_) (fun hc => ?_)) | ((with_reducible refine resP_id ?_); refine resP_two ?_) | ((with_reducible refine callT_to ?_); first | refine callP_plain ?_ | refine callP_yield ?_ | (refine callP_func ?_; conv => { arg 3; simp only [push_cast] })))
    | refine wk_seq ?_ | refine wk_region ?_ | refine wk_block ?_ | refine wk_inBlock ?_ | refine wk_skip ?_ | refine wk_draw (by kernel_rfl) (by decide +kernel) ?_ | refine wk_drawn [(0, 4)] (by kernel_rfl) (by decide +kernel) ?_ | refine wo_nil ?_ | refine wk_exit ?_ | refine exitK_code ?_ | refine exitK_hit ?_ | refine exitK_miss rfl ?_ | refine exitK_inLoop ?_ | refine wk_cond ?_ | refine wk_ret ?_ | refine wk_nil ?_ | refine wo_dst rfl (opR_call ?_) | refine wo_nodst (opR_call ?_) | refine wo_dst rfl (opR_pure ?_) | refine wo_nodst (opR_pure ?_)
    | refine wd_dst rfl (opR_call ?_) | refine wd_nodst (opR_call ?_) | refine wd_dst rfl (opR_pick ?_) | refine wd_guard rfl rfl ?_ | refine wd_guardn rfl ?_ | refine wd_dst rfl (opR_pure ?_) | refine wd_nodst (opR_pure ?_) | refine opR_call ?_ | refine opR_pick ?_ | refine opR_pure ?_ | (refine wd_nil ?_; refine doneD rfl rfl ?_ ?_) | refine again_nil | refine again_cons ?_ ?_ | refine again_plain rfl rfl rfl ?_ | refine again_guard rfl rfl rfl rfl ?_ | exact same_undef | exact same_of rfl rfl | refine give_ret ?_ | refine give_end ?_)
      refine (pairof2_w f hfm _).mono ?_
      rintro _ h6 ⟨⟨A, B, aa, ab, ca, cb, rfl, hA, hB6, hp, fa, fb⟩, g6⟩; have n6 := g6.1; have k6 := g6.2; try simp only [next_new, next_set] at n6 k6
      repeat' (first
    | ((with_reducible first | refine optP_id ?_ | refine condP_id ?_ | refine resP_id ?_ | refine callT_of ?_); conv => { arg 1; simp (disch := first | assumption | omega) only [push_cast, ↓reduceIte, reduceIte, Nat.reduceEqDiff, Nat.reduceAdd, Nat.reduceSub, Nat.reduceMul, Nat.reduceBEq, Int.reduceNeg, x8, y8, y9, y10, y12, y35, y36, k6] }; first | ((with_reducible refine optP_id ?_); refine optP_some ?_) | ((with_reducible refine condP_id ?_); first | refine qcy ?_ | refine qcx ?_ | refine qco ?_ | refine condP_decn (fun hc => ?_) (fun hc => ?_) | refine condP_dec (fun hc => ?_) (fun hc => ?_) | refine qct ?_ | refine qcf ?_ | refine condP_bool (fun hc => ?_) (fun hc => ?_)) | ((with_reducible refine resP_id ?_); refine resP_two ?_) | ((with_reducible refine callT_to ?_); first | refine callP_plain ?_ | refine callP_yield ?_ | (refine callP_func ?_; conv => { arg 3; simp only [push_cast] })))
    | refine wk_seq ?_ | refine wk_region ?_ | refine wk_block ?_ | refine wk_inBlock ?_ | refine wk_skip ?_ | refine wk_draw (by kernel_rfl) (by decide +kernel) ?_ | refine wk_drawn [(0, 4)] (by kernel_rfl) (by decide +kernel) ?_ | refine wo_nil ?_ | refine wk_exit ?_ | refine exitK_code ?_ | refine exitK_hit ?_ | refine exitK_miss rfl ?_ | refine exitK_inLoop ?_ | refine wk_cond ?_ | refine wk_ret ?_ | refine wk_nil ?_ | refine wo_dst rfl (opR_call ?_) | refine wo_nodst (opR_call ?_) | refine wo_dst rfl (opR_pure ?_) | refine wo_nodst (opR_pure ?_)
    | refine wd_dst rfl (opR_call ?_) | refine wd_nodst (opR_call ?_) | refine wd_dst rfl (opR_pick ?_) | refine wd_guard rfl rfl ?_ | refine wd_guardn rfl ?_ | refine wd_dst rfl (opR_pure ?_) | refine wd_nodst (opR_pure ?_) | refine opR_call ?_ | refine opR_pick ?_ | refine opR_pure ?_ | (refine wd_nil ?_; refine doneD rfl rfl ?_ ?_) | refine again_nil | refine again_cons ?_ ?_ | refine again_plain rfl rfl rfl ?_ | refine again_guard rfl rfl rfl rfl ?_ | exact same_undef | exact same_of rfl rfl | refine give_ret ?_ | refine give_end ?_)
      conv => { arg 1; simp (disch := first | assumption | omega) only [push_cast, ↓reduceIte, reduceIte, Nat.reduceEqDiff, Nat.reduceAdd, Nat.reduceSub, Nat.reduceMul, Nat.reduceBEq, Int.reduceNeg, ap46] }
      refine optP_one1 (enc := encV) (x := (.slice aa A.length ca, .slice ab B.length cb)) (e' := 69) (rw' := true) encV_len rfl (by omega) (by omega) (fun hn => by obtain ⟨q0, q1, q2⟩ := hB' hn; simp (disch := first | assumption | omega) only [push_cast, ↓reduceIte, reduceIte, Nat.reduceEqDiff, Nat.reduceAdd, Nat.reduceSub, Nat.reduceMul, Nat.reduceBEq, Int.reduceNeg, k6]; exact q2) (by unfold encV; simp (disch := first | assumption | omega) only [push_cast, ↓reduceIte, reduceIte, Nat.reduceEqDiff, Nat.reduceAdd, Nat.reduceSub, Nat.reduceMul, Nat.reduceBEq, Int.reduceNeg]) ?_
      intro H7 n7 new7 keep7
      simp only [next_new] at n7 new7 keep7
      have keep : ∀ c, c < h6.next → (W' ≠ [] → c ≠ bo') → H7.get c = h6.get c := fun c hc hne => by rw [keep7 c (by omega) hne]; simp (disch := first | assumption | omega) only [push_cast, ↓reduceIte, reduceIte, Nat.reduceEqDiff, Nat.reduceAdd, Nat.reduceSub, Nat.reduceMul, Nat.reduceBEq, Int.reduceNeg]
      have nbo : ∀ c, c < H.next → W' ≠ [] → c ≠ bo' := fun c hc hn => by have := (hB' hn).1; omega
      have f8 : H7.get h1.next = some (.cells [.slice (ownB W' bo') W'.length W'.length] 46 true) := by rw [keep _ (by omega) (nbo _ (by omega)), k6 _ (by omega)]; exact x8
      have smw : same (.slice (ownB W' bo') W'.length W'.length) (.slice (ownB W' bo') W'.length W'.length) = true := same_of rfl (by cases W' <;> rfl)
      have hel7 : elsV H.next H7 (W' ++ [(.slice aa A.length ca, .slice ab B.length cb)]) (F' ++ [f]) := by
        refine (hel'.keep ⟨by omega, fun b hb hb2 C rw' hC => ?_⟩).snoc (hA.keepF fa ⟨by omega, fun b hb hb2 C rw' hC => keep b hb2 (fun hn => by have := (hB' hn).2.1; omega)⟩) (hB6.keepF fb ⟨by omega, fun b hb hb2 C rw' hC => keep b hb2 (fun hn => by have := (hB' hn).2.1; omega)⟩) hp (fun x hx => by have := fa x hx; omega) (fun x hx => by have := fb x hx; omega)
        rw [keep b (by omega) (fun hn e => by subst e; rw [(hB' hn).2.2] at hC; cases hC), k6 _ hb2]
      repeat' (first
    | ((with_reducible first | refine optP_id ?_ | refine condP_id ?_ | refine resP_id ?_ | refine callT_of ?_); conv => { arg 1; simp (disch := first | assumption | omega) only [push_cast, ↓reduceIte, reduceIte, Nat.reduceEqDiff, Nat.reduceAdd, Nat.reduceSub, Nat.reduceMul, Nat.reduceBEq, Int.reduceNeg, f8, k6, x8, y8, y9, y10, y12, y35, y36] }; first | ((with_reducible refine optP_id ?_); refine optP_some ?_) | ((with_reducible refine condP_id ?_); first | refine qcy ?_ | refine qcx ?_ | refine qco ?_ | refine condP_decn (fun hc => ?_) (fun hc => ?_) | refine condP_dec (fun hc => ?_) (fun hc => ?_) | refine qct ?_ | refine qcf ?_ | refine condP_bool (fun hc => ?_) (fun hc => ?_)) | ((with_reducible refine resP_id ?_); refine resP_two ?_) | ((with_reducible refine callT_to ?_); first | refine callP_plain ?_ | refine callP_yield ?_ | (refine callP_func ?_; conv => { arg 3; simp only [push_cast] })))
    | refine wk_seq ?_ | refine wk_region ?_ | refine wk_block ?_ | refine wk_inBlock ?_ | refine wk_skip ?_ | refine wk_draw (by kernel_rfl) (by decide +kernel) ?_ | refine wk_drawn [(0, 4)] (by kernel_rfl) (by decide +kernel) ?_ | refine wo_nil ?_ | refine wk_exit ?_ | refine exitK_code ?_ | refine exitK_hit ?_ | refine exitK_miss rfl ?_ | refine exitK_inLoop ?_ | refine wk_cond ?_ | refine wk_ret ?_ | refine wk_nil ?_ | refine wo_dst rfl (opR_call ?_) | refine wo_nodst (opR_call ?_) | refine wo_dst rfl (opR_pure ?_) | refine wo_nodst (opR_pure ?_)
    | refine wd_dst rfl (opR_call ?_) | refine wd_nodst (opR_call ?_) | refine wd_dst rfl (opR_pick ?_) | refine wd_guard rfl rfl ?_ | refine wd_guardn rfl ?_ | refine wd_dst rfl (opR_pure ?_) | refine wd_nodst (opR_pure ?_) | refine opR_call ?_ | refine opR_pick ?_ | refine opR_pure ?_ | (refine wd_nil ?_; refine doneD rfl rfl ?_ ?_) | refine again_nil | refine again_cons ?_ ?_ | refine again_plain rfl rfl rfl ?_ | refine again_guard rfl rfl rfl rfl ?_ | exact same_undef | exact same_of rfl rfl | refine give_ret ?_ | refine give_end ?_)
      · exact smw
      · have hK2 : ∀ K, isG (R' * f ^ (t' - (q + 1))) K → isG X (F' ++ [f] ++ K) := fun K hK => by
          rw [List.append_assoc]
          have e1 : f ^ (t' - q) = f ^ (t' - (q + 1)) * f := by rw [← Nat.pow_succ]; congr 1; omega
          refine hK' (f :: K) (isG_cons hfm (fun g hg hlt => mod_of_dvd ?_ (hbig g hg hlt)) (by rw [e1, Nat.mul_assoc]) hK)
          rw [hR]
          exact Nat.mul_dvd_mul_left R' (Nat.pow_dvd_pow f (by omega))
        refine next (t' - (q + 1)) _ _ (by omega) ⟨q + 1, F' ++ [f], W' ++ [(.slice aa A.length ca, .slice ab B.length cb)], h6.next + 1, rfl, by omega, by simp only [next_set]; omega, fun x hx n1 n2 n3 n4 => by rw [get_set_ne (Ne.symm n2), keep _ (by omega) (nbo _ hx), k6 _ (by omega)]; exact gk x hx n1 n2 n3 n4, by rw [get_set_ne (by omega), keep _ (by omega) (nbo _ (by omega)), k6 _ (by omega)]; exact gl, fun g hg => ?_, by rw [prodN_snoc, hP', Nat.pow_succ, Nat.mul_assoc], hK2, by rw [get_set_ne (by omega), keep _ (by omega) (nbo _ (by omega)), k6 _ (by omega)]; exact x9, by rw [get_set_ne (by omega), keep _ (by omega) (nbo _ (by omega)), k6 _ (by omega)]; exact x10, by rw [get_set_self], fun _ => ⟨by omega, by simp only [next_set]; omega, by rw [get_set_ne (by omega)]; exact new7⟩, hel7.keep ⟨by simp only [next_set]; omega, fun b hb hb2 C rw' hC => by rw [get_set_ne (by omega)]⟩, by simp (disch := first | assumption | omega) only [push_cast, ↓reduceIte, reduceIte, Nat.reduceEqDiff, Nat.reduceAdd, Nat.reduceSub, Nat.reduceMul, Nat.reduceBEq, Int.reduceNeg, y8], by simp (disch := first | assumption | omega) only [push_cast, ↓reduceIte, reduceIte, Nat.reduceEqDiff, Nat.reduceAdd, Nat.reduceSub, Nat.reduceMul, Nat.reduceBEq, Int.reduceNeg, y9], by simp (disch := first | assumption | omega) only [push_cast, ↓reduceIte, reduceIte, Nat.reduceEqDiff, Nat.reduceAdd, Nat.reduceSub, Nat.reduceMul, Nat.reduceBEq, Int.reduceNeg, y10], by simp (disch := first | assumption | omega) only [push_cast, ↓reduceIte, reduceIte, Nat.reduceEqDiff, Nat.reduceAdd, Nat.reduceSub, Nat.reduceMul, Nat.reduceBEq, Int.reduceNeg, y12], by simp (disch := first | assumption | omega) only [push_cast, ↓reduceIte, reduceIte, Nat.reduceEqDiff, Nat.reduceAdd, Nat.reduceSub, Nat.reduceMul, Nat.reduceBEq, Int.reduceNeg, y35], by simp (disch := first | assumption | omega) only [push_cast, ↓reduceIte, reduceIte, Nat.reduceEqDiff, Nat.reduceAdd, Nat.reduceSub, Nat.reduceMul, Nat.reduceBEq, Int.reduceNeg, Int.natCast_add, Int.natCast_one]⟩
        rcases List.mem_append.1 hg with hg | hg
        · exact hF' g hg
        · rw [List.mem_singleton.1 hg]; exact hfm
    · have ilt : ¬ (q : Int) < (t' : Int) := by omega
      obtain rfl : q = t' := by omega
      repeat' (first
    | ((with_reducible first | refine optP_id ?_ | refine condP_id ?_ | refine resP_id ?_ | refine callT_of ?_); conv => { arg 1; simp (disch := first | assumption | omega) only [push_cast, ↓reduceIte, reduceIte, Nat.reduceEqDiff, Nat.reduceAdd, Nat.reduceSub, Nat.reduceMul, Nat.reduceBEq, Int.reduceNeg, x8, y8, y9, y10, y12, y35, y36] }; first | ((with_reducible refine optP_id ?_); refine optP_some ?_) | ((with_reducible refine condP_id ?_); first | refine qcy ?_ | refine qcx ?_ | refine qco ?_ | refine condP_decn (fun hc => ?_) (fun hc => ?_) | refine condP_dec (fun hc => ?_) (fun hc => ?_) | refine qct ?_ | refine qcf ?_ | refine condP_bool (fun hc => ?_) (fun hc => ?_)) | ((with_reducible refine resP_id ?_); refine resP_two ?_) | ((with_reducible refine callT_to ?_); first | refine callP_plain ?_ | refine callP_yield ?_ | (refine callP_func ?_; conv => { arg 3; simp only [push_cast] })))
    | refine wk_seq ?_ | refine wk_region ?_ | refine wk_block ?_ | refine wk_inBlock ?_ | refine wk_skip ?_ | refine wk_draw (by kernel_rfl) (by decide +kernel) ?_ | refine wk_drawn [(0, 4)] (by kernel_rfl) (by decide +kernel) ?_ | refine wo_nil ?_ | refine wk_exit ?_ | refine exitK_code ?_ | refine exitK_hit ?_ | refine exitK_miss rfl ?_ | refine exitK_inLoop ?_ | refine wk_cond ?_ | refine wk_ret ?_ | refine wk_nil ?_ | refine wo_dst rfl (opR_call ?_) | refine wo_nodst (opR_call ?_) | refine wo_dst rfl (opR_pure ?_) | refine wo_nodst (opR_pure ?_)
    | refine wd_dst rfl (opR_call ?_) | refine wd_nodst (opR_call ?_) | refine wd_dst rfl (opR_pick ?_) | refine wd_guard rfl rfl ?_ | refine wd_guardn rfl ?_ | refine wd_dst rfl (opR_pure ?_) | refine wd_nodst (opR_pure ?_) | refine opR_call ?_ | refine opR_pick ?_ | refine opR_pure ?_ | (refine wd_nil ?_; refine doneD rfl rfl ?_ ?_) | refine again_nil | refine again_cons ?_ ?_ | refine again_plain rfl rfl rfl ?_ | refine again_guard rfl rfl rfl rfl ?_ | exact same_undef | exact same_of rfl rfl | refine give_ret ?_ | refine give_end ?_)
      refine lp.next (lp.of m3 gl) ?_
      intro H8 s1 s2 s3
      refine .inl ⟨rfl, by omega, fun x hx n1 n2 n3 n4 => by rw [s2 _ n1]; exact gk x hx n1 n2 n3 n4, s3, R', F', W', bo', q, by rw [hP']; exact hRF', fun K hK => hK' K (by rw [Nat.sub_self, Nat.pow_zero, Nat.mul_one]; exact hK), hR0', hF', fun g hg => ?_, by rw [hCR', s2 _ (by omega)]; exact x9, by rw [s2 _ (by omega)]; exact x10, by rw [s2 _ (by omega)]; exact x8, fun hn => by
        obtain ⟨q1, q2, q3⟩ := hB' hn
        exact ⟨q1, by omega, by rw [s2 _ (by omega)]; exact q3⟩, hel'.keep ⟨by omega, fun b hb hb2 C rw' hC => by rw [s2 _ (by omega)]⟩⟩
      rw [hdr] at hg
      rcases List.mem_cons.1 hg with rfl | hg
      · exact hmod
      · exact mod_keep hR (hRm g hg)
  · rintro _ H' (⟨p1, p2, p3, R, F, W, bo, t, hRF, hGr, hR0, hF, hRm, p9, p10, p8, hB, hel⟩ | hF)
    · refine ⟨_, _, by decide, p3, fun H'' t1 t2 => ?_⟩
      rw [todo_none]
      have hR1 : R = 1 := left_one hRF hreg (fun f hf => hRm f hf)
      rw [hR1, Nat.one_mul] at hRF
      have hGX : isG X F := by have := hGr [] hR1; rwa [List.append_nil] at this
      have e8 : H''.get h1.next = some (.cells [.slice (ownB W bo) W.length W.length] 46 true) := by rw [t2 _ (by omega)]; exact p8
      have e6 : H''.get h4.next = some (.deferred (some [])) := by rw [t2 _ (by omega), p2 _ (by omega) (by omega) (by omega) (by omega) (by omega)]; exact dH
      have gr : Gr h H'' := ⟨by omega, fun b hb => by rw [t2 _ (by omega), p2 _ (by omega) (by omega) (by omega) (by omega) (by omega), oH _ (by omega)]; exact gA.2 b hb⟩
      have hB2 : W ≠ [] → h.next ≤ bo ∧ bo < H''.next ∧ H''.get bo = some (.cells (flatE encV W) 69 true) := fun hn => by
        obtain ⟨q1, q2, q3⟩ := hB hn
        exact ⟨by omega, by omega, by rw [t2 _ (by omega)]; exact q3⟩
      have hel2 : elsV H.next H'' W F := hel.keep ⟨by omega, fun b hb hb2 C rw' hC => by rw [t2 _ (by omega)]⟩
      repeat' (first
    | ((with_reducible first | refine optP_id ?_ | refine condP_id ?_ | refine resP_id ?_ | refine callT_of ?_); conv => { arg 1; simp (disch := first | assumption | omega) only [push_cast, ↓reduceIte, reduceIte, Nat.reduceEqDiff, Nat.reduceAdd, Nat.reduceSub, Nat.reduceMul, Nat.reduceBEq, Int.reduceNeg, e8] }; first | ((with_reducible refine optP_id ?_); refine optP_some ?_) | ((with_reducible refine condP_id ?_); first | refine qcy ?_ | refine qcx ?_ | refine qco ?_ | refine condP_decn (fun hc => ?_) (fun hc => ?_) | refine condP_dec (fun hc => ?_) (fun hc => ?_) | refine qct ?_ | refine qcf ?_ | refine condP_bool (fun hc => ?_) (fun hc => ?_)) | ((with_reducible refine resP_id ?_); refine resP_two ?_) | ((with_reducible refine callT_to ?_); first | refine callP_plain ?_ | refine callP_yield ?_ | (refine callP_func ?_; conv => { arg 3; simp only [push_cast] })))
    | refine wk_seq ?_ | refine wk_region ?_ | refine wk_block ?_ | refine wk_inBlock ?_ | refine wk_skip ?_ | refine wk_draw (by kernel_rfl) (by decide +kernel) ?_ | refine wk_drawn [(0, 4)] (by kernel_rfl) (by decide +kernel) ?_ | refine wo_nil ?_ | refine wk_exit ?_ | refine exitK_code ?_ | refine exitK_hit ?_ | refine exitK_miss rfl ?_ | refine exitK_inLoop ?_ | refine wk_cond ?_ | refine wk_ret ?_ | refine wk_nil ?_ | refine wo_dst rfl (opR_call ?_) | refine wo_nodst (opR_call ?_) | refine wo_dst rfl (opR_pure ?_) | refine wo_nodst (opR_pure ?_)
    | refine wd_dst rfl (opR_call ?_) | refine wd_nodst (opR_call ?_) | refine wd_dst rfl (opR_pick ?_) | refine wd_guard rfl rfl ?_ | refine wd_guardn rfl ?_ | refine wd_dst rfl (opR_pure ?_) | refine wd_nodst (opR_pure ?_) | refine opR_call ?_ | refine opR_pick ?_ | refine opR_pure ?_ | (refine wd_nil ?_; refine doneD rfl rfl ?_ ?_) | refine again_nil | refine again_cons ?_ ?_ | refine again_plain rfl rfl rfl ?_ | refine again_guard rfl rfl rfl rfl ?_ | exact same_undef | exact same_of rfl rfl | refine give_ret ?_ | refine give_end ?_)
      refine give_ret1 (by simp (disch := first | assumption | omega) only [push_cast, ↓reduceIte, reduceIte, Nat.reduceEqDiff, Nat.reduceAdd, Nat.reduceSub, Nat.reduceMul, Nat.reduceBEq, Int.reduceNeg, e6]) ?_
      repeat' (first
    | ((with_reducible first | refine optP_id ?_ | refine condP_id ?_ | refine resP_id ?_ | refine callT_of ?_); conv => { arg 1; simp (disch := first | assumption | omega) only [push_cast, ↓reduceIte, reduceIte, Nat.reduceEqDiff, Nat.reduceAdd, Nat.reduceSub, Nat.reduceMul, Nat.reduceBEq, Int.reduceNeg, e8] }; first | ((with_reducible refine optP_id ?_); refine optP_some ?_) | ((with_reducible refine condP_id ?_); first | refine qcy ?_ | refine qcx ?_ | refine qco ?_ | refine condP_decn (fun hc => ?_) (fun hc => ?_) | refine condP_dec (fun hc => ?_) (fun hc => ?_) | refine qct ?_ | refine qcf ?_ | refine condP_bool (fun hc => ?_) (fun hc => ?_)) | ((with_reducible refine resP_id ?_); refine resP_two ?_) | ((with_reducible refine callT_to ?_); first | refine callP_plain ?_ | refine callP_yield ?_ | (refine callP_func ?_; conv => { arg 3; simp only [push_cast] })))
    | refine wk_seq ?_ | refine wk_region ?_ | refine wk_block ?_ | refine wk_inBlock ?_ | refine wk_skip ?_ | refine wk_draw (by kernel_rfl) (by decide +kernel) ?_ | refine wk_drawn [(0, 4)] (by kernel_rfl) (by decide +kernel) ?_ | refine wo_nil ?_ | refine wk_exit ?_ | refine exitK_code ?_ | refine exitK_hit ?_ | refine exitK_miss rfl ?_ | refine exitK_inLoop ?_ | refine wk_cond ?_ | refine wk_ret ?_ | refine wk_nil ?_ | refine wo_dst rfl (opR_call ?_) | refine wo_nodst (opR_call ?_) | refine wo_dst rfl (opR_pure ?_) | refine wo_nodst (opR_pure ?_)
    | refine wd_dst rfl (opR_call ?_) | refine wd_nodst (opR_call ?_) | refine wd_dst rfl (opR_pick ?_) | refine wd_guard rfl rfl ?_ | refine wd_guardn rfl ?_ | refine wd_dst rfl (opR_pure ?_) | refine wd_nodst (opR_pure ?_) | refine opR_call ?_ | refine opR_pick ?_ | refine opR_pure ?_ | (refine wd_nil ?_; refine doneD rfl rfl ?_ ?_) | refine again_nil | refine again_cons ?_ ?_ | refine again_plain rfl rfl rfl ?_ | refine again_guard rfl rfl rfl rfl ?_ | exact same_undef | exact same_of rfl rfl | refine give_ret ?_ | refine give_end ?_)
      have hk : KeepI H.next H'' (H''.set h4.next (.deferred none)) := ⟨Nat.le_refl _, fun b hb hb2 C rw' hC => get_set_ne (by omega) _⟩
      have hel3 : elsV h.next (H''.set h4.next (.deferred none)) W F := (hel2.keep hk).weak (by omega)
      exact ⟨⟨F, W, bo, rfl, fun hn => ⟨(hB2 hn).1, (hB2 hn).2.1, by have := (hB hn).1; rw [get_set_ne (by omega)]; exact (hB2 hn).2.2⟩, hel3, hF, hRF, hGX⟩, Gr.set gr (by omega) _⟩
    · exact hF.elim
end Go.Proofs.YtelepfablohdmaaGreatDoor
