/- The walk of the law PlaceRootBounds. -/
import Derived.Test.YtelepfablohdmaaGreatDoorVK
import Derived.Test.YtelepfablohdmaaGreatDoorVJ
import Derived.Test.YtelepfablohdmaaGreatDoorVH
set_option linter.unusedSimpArgs false
set_option linter.unusedVariables false
/- Sums of partial products; the law's times and square. -/
namespace Go.Proofs.YtelepfablohdmaaGreatDoor
open Go.Ev
theorem nf_ex {P : Nat} (hP : P < 60 ^ 146) : ∃ d, nf P d := by
  obtain ⟨r, h', _, hp, _⟩ := place_w P hP 0 (by omega) (by omega) ⟨.lf, 0⟩
  rcases hp with ⟨h0, _⟩ | ⟨h0, l, e, v, hl, hn, hval, _⟩
  · exact ⟨[], valid_nil, ⟨fun _ => h0, fun _ => rfl⟩, 0, by rw [h0]; rfl⟩
  · exact ⟨l, hl, ⟨fun h => absurd h hn, fun h => absurd h h0⟩, e, hval⟩
theorem sum_val {P : Nat} {r : Value} {H : AHeap} (hp : placeR (P * 60 ^ 64) (-64) r H) (hP : P < 60 ^ 16) (h0 : P ≠ 0) : ∃ d a c, ∃ e : Nat, r = .tuple #[.agg #[.slice a d.length c, .int .i64 (e : Int)], .int .i64 0] ∧ IIn H (.slice a d.length c) d ∧ valid d ∧ d ≠ [] ∧ d.length + e ≤ 16 ∧ valN d * 60 ^ e = P := by
  rcases hp with ⟨q, rfl⟩ | ⟨q, l, e, v, hl, hn, hval, hle, hE⟩
  · rcases Nat.mul_eq_zero.1 q with q | q
    · exact absurd q h0
    · exact absurd q (Nat.ne_of_gt (pow60_pos 64))
  · obtain ⟨d0, hv0, he0, e0, hd0⟩ := nf_ex (Nat.lt_of_lt_of_le hP (Nat.pow_le_pow_right (by decide) (show 16 ≤ 146 by omega)))
    have hd00 : d0 ≠ [] := fun hh => h0 (he0.1 hh)
    obtain ⟨h1, h2⟩ := pow_split (valN_mod hl hn) (valN_mod hv0 hd00) (show valN l * 60 ^ e = valN d0 * 60 ^ (e0 + 64) by rw [hval, Nat.pow_add, ← Nat.mul_assoc, hd0])
    rw [← h1] at hd0
    have hlen := place_len hl hn hd0 hP
    subst h2
    rcases hE with ⟨h3, rfl, hin⟩ | ⟨h3, _⟩
    · obtain ⟨a, c, rfl, _⟩ := id hin
      exact ⟨l, a, c, e0, by rw [show -64 + ((e0 + 64 : Nat) : Int) = (e0 : Int) by omega], hin, hl, hn, hlen, hd0⟩
    · exact absurd ((placeE_zero (s := -64 + ((e0 + 64 : Nat) : Int)) hl hn (by omega) (by omega)).1 (by omega)) h3
theorem sum_of {X T m : Nat} {L : List (List Int × Int)} {r : Value} {H : AHeap} (hs : sumR L r H) (hc : cInv X 0 T m L) (hm : m ≤ 64) : placeR (X * T * 60 ^ 64) (-64) r H := by
  obtain ⟨h1, h2, h3⟩ := hc
  rcases hs with ⟨q, _⟩ | ⟨_, i, hi, _, q, _⟩ | ⟨_, _, q⟩
  · omega
  · exact absurd (placeE_ok.2 (h2 _ (List.getElem_mem hi))) q
  · rw [sumU_all] at q
    rw [Nat.mul_zero, Nat.zero_mul, Nat.add_zero] at h3
    rw [h3] at q
    exact q
end Go.Proofs.YtelepfablohdmaaGreatDoor
namespace Go.Proofs.YtelepfablohdmaaGreatDoor
open Go.Ev
theorem sum_valz {P z : Nat} {r : Value} {H : AHeap} (hp : placeR (P * 60 ^ z) (-64) r H) (hP : P < 60 ^ 16) (h0 : P ≠ 0) (hz : z ≤ 100) (hz2 : 20 ≤ z) : ∃ d a c, ∃ s : Int, r = .tuple #[.agg #[.slice a d.length c, .int .i64 s], .int .i64 0] ∧ IIn H (.slice a d.length c) d ∧ okP d s ∧ d ≠ [] ∧ unitN d s = P * 60 ^ z ∧ d.length ≤ 16 ∧ (z : Int) - 64 ≤ s ∧ s ≤ (z : Int) - 48 ∧ ∀ K, P < 60 ^ K → d.length ≤ K := by
  rcases hp with ⟨q, rfl⟩ | ⟨q, l, e, v, hl, hn, hval, hle, hE⟩
  · rcases Nat.mul_eq_zero.1 q with q | q
    · exact absurd q h0
    · exact absurd q (Nat.ne_of_gt (pow60_pos z))
  · obtain ⟨d0, hv0, he0, e0, hd0⟩ := nf_ex (Nat.lt_of_lt_of_le hP (Nat.pow_le_pow_right (by decide) (show 16 ≤ 146 by omega)))
    have hd00 : d0 ≠ [] := fun hh => h0 (he0.1 hh)
    obtain ⟨h1, h2⟩ := pow_split (valN_mod hl hn) (valN_mod hv0 hd00) (show valN l * 60 ^ e = valN d0 * 60 ^ (e0 + z) by rw [hval, Nat.pow_add, ← Nat.mul_assoc, hd0])
    rw [← h1] at hd0
    have hlen := place_len hl hn hd0 hP
    subst h2
    rcases hE with ⟨h3, rfl, hin⟩ | ⟨h3, _⟩
    · obtain ⟨a, c, rfl, _⟩ := id hin
      refine ⟨l, a, c, _, rfl, hin, ⟨hl, by omega, by omega, by omega, fun hh => absurd hh hn⟩, hn, ?_, by omega, by omega, by omega, fun K hK => by have := place_len hl hn hd0 hK; omega⟩
      rw [unitN, show -64 + ((e0 + z : Nat) : Int) + 64 = ((e0 + z : Nat) : Int) by omega, Int.toNat_natCast]
      exact hval
    · exact absurd ((placeE_zero (s := -64 + ((e0 + z : Nat) : Int)) hl hn (by omega) (by omega)).1 (by omega)) h3
theorem plR_at {X K : Nat} {s : Int} {v : Value} {sh : Int} {H : AHeap} (p : plR X s v sh H) (hX0 : X ≠ 0) (hX : X < 60 ^ K) (hK : K ≤ 16) (hs1 : -30 ≤ s) (hs2 : s ≤ 30) : ∃ d a c, ∃ e : Nat, v = .slice a d.length c ∧ IIn H (.slice a d.length c) d ∧ okP d sh ∧ d ≠ [] ∧ d.length + e ≤ K ∧ sh = s + (e : Int) ∧ valN d * 60 ^ e = X ∧ unitN d sh = X * 60 ^ (s + 64).toNat := by
  rcases p with ⟨h0, _⟩ | ⟨_, d, e, hi, hv, hn, hval, rfl, _⟩
  · exact absurd h0 hX0
  · obtain ⟨a, c, rfl, _⟩ := id hi
    have hl := place_len hv hn hval hX
    obtain ⟨z, hz⟩ : ∃ z : Nat, s + 64 = (z : Int) := ⟨(s + 64).toNat, by omega⟩
    refine ⟨d, a, c, e, rfl, hi, ⟨hv, by omega, by omega, by omega, fun h => absurd h hn⟩, hn, hl, rfl, hval, ?_⟩
    rw [unitN, ← hval, hz, Int.toNat_natCast, show s + (e : Int) + 64 = ((e + z : Nat) : Int) by omega, Int.toNat_natCast, Nat.pow_add, Nat.mul_assoc]
theorem root_sgn {n dg S q U V z : Nat} {k : Int} (h : rootS n dg S k) (h1 : q * q ≤ S) (h2 : S < (q + 1) * (q + 1)) (hz : k + 64 = (z : Int)) (hU : U * 60 ^ 64 = (q * 60 ^ z) * (q * 60 ^ z)) (hV : V * 60 ^ 64 = ((q + 1) * 60 ^ z) * ((q + 1) * 60 ^ z)) : U ≤ n * 60 ^ 64 ∧ n * 60 ^ 64 < V := by
  have hA : 0 < (60 : Nat) ^ 64 := pow60_pos 64
  have key : ∃ c, q * q * 60 ^ (2 * z) ≤ c ∧ c < (q + 1) * (q + 1) * 60 ^ (2 * z) ∧ c = n * 60 ^ 64 * 60 ^ 64 ∨ q * q * 60 ^ (2 * z) ≤ n * 60 ^ 64 * 60 ^ 64 ∧ n * 60 ^ 64 * 60 ^ 64 < (q + 1) * (q + 1) * 60 ^ (2 * z) := by
    refine ⟨n * 60 ^ 64 * 60 ^ 64, .inr ?_⟩
    have e128 : n * 60 ^ 64 * 60 ^ 64 = n * 60 ^ 128 := by rw [Nat.mul_assoc, ← Nat.pow_add]
    rw [e128]
    obtain ⟨_, _, ⟨a, rfl, rfl, ha, _⟩ | ⟨b, hb1, hb, rfl, rfl, _⟩⟩ := h
    · have ez : n * 3600 ^ a * 60 ^ (2 * z) = n * 60 ^ 128 := by
        rw [Nat.mul_assoc, show (3600 : Nat) = 60 ^ 2 from rfl, ← Nat.pow_mul, ← Nat.pow_add]
        congr 2; omega
      rw [← ez]
      exact ⟨Nat.mul_le_mul_right _ h1, Nat.mul_lt_mul_of_pos_right h2 (pow60_pos _)⟩
    · have ez : 60 ^ (2 * z) = 3600 ^ b * 60 ^ 128 := by
        rw [show (3600 : Nat) = 60 ^ 2 from rfl, ← Nat.pow_mul, ← Nat.pow_add]
        congr 1; omega
      have hc : 0 < 3600 ^ b := Nat.pow_pos (by decide)
      rw [ez, ← Nat.mul_assoc, ← Nat.mul_assoc]
      refine ⟨Nat.mul_le_mul_right _ ?_, Nat.mul_lt_mul_of_pos_right ?_ (pow60_pos _)⟩
      · exact Nat.le_trans (Nat.mul_le_mul_right _ h1) (Nat.div_mul_le_self n _)
      · have h3 : n < (n / 3600 ^ b + 1) * 3600 ^ b := by
          have := Nat.div_add_mod n (3600 ^ b)
          have := Nat.mod_lt n hc
          rw [Nat.add_mul, Nat.one_mul, Nat.mul_comm]
          omega
        exact Nat.lt_of_lt_of_le h3 (Nat.mul_le_mul_right _ h2)
  have sq : ∀ p, (p * 60 ^ z) * (p * 60 ^ z) = p * p * 60 ^ (2 * z) := fun p => by
    rw [Nat.mul_mul_mul_comm, ← Nat.pow_add]; congr 2; omega
  rw [sq] at hU hV
  obtain ⟨c, ⟨q1, q2, rfl⟩ | ⟨q1, q2⟩⟩ := key
  all_goals
    rw [← hU] at q1
    rw [← hV] at q2
    exact ⟨Nat.le_of_mul_le_mul_right q1 hA, Nat.lt_of_mul_lt_mul_right q2⟩
theorem root_q {dg S q : Nat} (hd : 1 ≤ dg) (h1 : 60 ^ (2 * dg - 2) ≤ S) (h2 : S < 60 ^ (2 * dg)) (h3 : q * q ≤ S) (h4 : S < (q + 1) * (q + 1)) : 60 ^ (dg - 1) ≤ q ∧ q < 60 ^ dg := by
  have e1 : 60 ^ (2 * dg - 2) = 60 ^ (dg - 1) * 60 ^ (dg - 1) := by rw [← Nat.pow_add]; congr 1; omega
  have e2 : 60 ^ (2 * dg) = 60 ^ dg * 60 ^ dg := by rw [← Nat.pow_add]; congr 1; omega
  rw [e1] at h1
  rw [e2] at h2
  constructor
  · apply Classical.byContradiction
    intro hh
    have := Nat.mul_le_mul (show q + 1 ≤ 60 ^ (dg - 1) by omega) (show q + 1 ≤ 60 ^ (dg - 1) by omega)
    omega
  · apply Classical.byContradiction
    intro hh
    have := Nat.mul_le_mul (show 60 ^ dg ≤ q by omega) (show 60 ^ dg ≤ q by omega)
    omega
theorem unit_sq {l d : List Int} {s : Int} {e : Nat} (h : valN d * 60 ^ e = valN l * valN l) (hs : -32 ≤ s) : unitN d ((e : Int) + 2 * s) * 60 ^ 64 = unitN l s * unitN l s := by
  obtain ⟨z, hz⟩ : ∃ z : Nat, s + 64 = (z : Int) := ⟨(s + 64).toNat, by omega⟩
  obtain ⟨y, hy⟩ : ∃ y : Nat, 2 * s + 64 = (y : Int) := ⟨(2 * s + 64).toNat, by omega⟩
  rw [unitN, unitN, show (e : Int) + 2 * s + 64 = ((e + y : Nat) : Int) by omega, hz, Int.toNat_natCast, Int.toNat_natCast, Nat.pow_add, ← Nat.mul_assoc, h, Nat.mul_mul_mul_comm, ← Nat.pow_add, Nat.mul_assoc, ← Nat.pow_add]
  congr 2; omega
set_option maxRecDepth 100000 in
set_option maxHeartbeats 8000000 in
theorem lawsquare_w (l : List Int) (s : Int) (hl : valid l) (hl0 : l ≠ []) (ll : l.length ≤ 7) (hs1 : -24 ≤ s) (hs2 : s ≤ 20) (v : Value) (h : AHeap) (hv : IIn h v l) :
    Wc pr (.func 54) [.agg #[v, .int .i64 s]] h fun r h' => (∃ d a c t, r = .tuple #[.agg #[.slice a d.length c, .int .i64 t], .bool true] ∧ IIn h' (.slice a d.length c) d ∧ okP d t ∧ unitN d t * 60 ^ 64 = unitN l s * unitN l s) ∧ Gr h h' := by
  have hv0 := hv
  obtain ⟨al, cl, rfl, _⟩ := hv
  refine wc_func Tryz.func54 rfl rfl rfl rfl ?_
  repeat' (first
    | ((with_reducible first | refine optP_id ?_ | refine condP_id ?_ | refine condO_id ?_ | refine resP_id ?_ | refine callT_of ?_); conv => { arg 1; simp (disch := first | assumption | omega) only [push_cast, ↓reduceIte, reduceIte, Nat.reduceEqDiff, Nat.reduceAdd, Nat.reduceSub, Nat.reduceMul, Nat.reduceBEq, Int.reduceNeg] }; first | ((with_reducible refine optP_id ?_); refine optP_some ?_) | ((with_reducible refine condP_id ?_); first | refine qcy ?_ | refine qcx ?_ | refine qco ?_ | refine condP_decn (fun hc => ?_) (fun hc => ?_) | refine condP_dec (fun hc => ?_) (fun hc => ?_) | refine qct ?_ | refine qcf ?_ | refine condP_bool (fun hc => ?_) (fun hc => ?_)) | ((with_reducible refine condO_id ?_); refine condO_some ?_) | ((with_reducible refine resP_id ?_); refine resP_two ?_) | ((with_reducible refine callT_to ?_); refine callP_plain ?_))
    | refine wk_seq ?_ | refine wk_region ?_ | refine wo_nil ?_ | refine wk_ret ?_ | refine wk_nil ?_ | refine wo_dst rfl (opR_call ?_) | refine wo_nodst (opR_call ?_) | refine wo_dst rfl (opR_pick ?_) | refine wo_guard rfl rfl ?_ | refine wo_guardn rfl ?_ | refine wo_dst rfl (opR_pure ?_) | refine wo_nodst (opR_pure ?_)
    | refine give_ret ?_ | refine give_end ?_)
  refine (bytable_w l l hl (by omega) hl (by omega) _ _ _ (SlIn.gr hv0 (by (repeat (first | exact Gr.refl _ | assumption | (refine Gr.trans ?_ (by assumption)) | refine Gr.set ?_ (by first | exact Nat.le_refl _ | omega | (simp only [next_new, next_set]; omega)) _ | refine Gr.new ?_ _)))) (SlIn.gr hv0 (by (repeat (first | exact Gr.refl _ | assumption | (refine Gr.trans ?_ (by assumption)) | refine Gr.set ?_ (by first | exact Nat.le_refl _ | omega | (simp only [next_new, next_set]; omega)) _ | refine Gr.new ?_ _)))) (okC_sl _ _ _) (okC_sl _ _ _)).mono ?_
  rintro _ h3 ⟨⟨L, aL, cL, rfl, hL, hci⟩, g3⟩; have n3 := g3.1; have k3 := g3.2; try simp only [next_new, next_set] at n3 k3
  repeat' (first
    | ((with_reducible first | refine optP_id ?_ | refine condP_id ?_ | refine condO_id ?_ | refine resP_id ?_ | refine callT_of ?_); conv => { arg 1; simp (disch := first | assumption | omega) only [push_cast, ↓reduceIte, reduceIte, Nat.reduceEqDiff, Nat.reduceAdd, Nat.reduceSub, Nat.reduceMul, Nat.reduceBEq, Int.reduceNeg, k3] }; first | ((with_reducible refine optP_id ?_); refine optP_some ?_) | ((with_reducible refine condP_id ?_); first | refine qcy ?_ | refine qcx ?_ | refine qco ?_ | refine condP_decn (fun hc => ?_) (fun hc => ?_) | refine condP_dec (fun hc => ?_) (fun hc => ?_) | refine qct ?_ | refine qcf ?_ | refine condP_bool (fun hc => ?_) (fun hc => ?_)) | ((with_reducible refine condO_id ?_); refine condO_some ?_) | ((with_reducible refine resP_id ?_); refine resP_two ?_) | ((with_reducible refine callT_to ?_); refine callP_plain ?_))
    | refine wk_seq ?_ | refine wk_region ?_ | refine wo_nil ?_ | refine wk_ret ?_ | refine wk_nil ?_ | refine wo_dst rfl (opR_call ?_) | refine wo_nodst (opR_call ?_) | refine wo_dst rfl (opR_pick ?_) | refine wo_guard rfl rfl ?_ | refine wo_guardn rfl ?_ | refine wo_dst rfl (opR_pure ?_) | refine wo_nodst (opR_pure ?_)
    | refine give_ret ?_ | refine give_end ?_)
  refine (sum_w L _ _ hL (by have := hci.1; omega) (fun i hi => by have := (hci.2.1 _ (List.getElem_mem hi)).2.1; omega)).mono ?_
  rintro r4 h4 ⟨hsum, g4⟩; have n4 := g4.1; have k4 := g4.2; try simp only [next_new, next_set] at n4 k4
  have hP : valN l * valN l < 60 ^ 16 := by
    have h1 := Nat.lt_of_lt_of_le (valN_lt hl.1) (Nat.pow_le_pow_right (n := 60) (by decide) ll)
    have h3 := Nat.mul_lt_mul'' h1 h1
    rw [← Nat.pow_add] at h3
    exact Nat.lt_of_lt_of_le h3 (Nat.pow_le_pow_right (by decide) (by omega))
  have hP0 : valN l * valN l ≠ 0 := Nat.mul_ne_zero (Nat.ne_of_gt (valN_pos hl hl0)) (Nat.ne_of_gt (valN_pos hl hl0))
  obtain ⟨d, a, c, e, rfl, hid, hvd, hnd, hle, hval⟩ := sum_val (sum_of hsum hci (by omega)) hP hP0
  have hun := unit_sq hval (by omega : -32 ≤ s)
  clear hP hP0 hsum hci hval
  repeat' (first
    | ((with_reducible first | refine optP_id ?_ | refine condP_id ?_ | refine condO_id ?_ | refine resP_id ?_ | refine callT_of ?_); conv => { arg 1; simp (disch := first | assumption | omega) only [push_cast, ↓reduceIte, reduceIte, Nat.reduceEqDiff, Nat.reduceAdd, Nat.reduceSub, Nat.reduceMul, Nat.reduceBEq, Int.reduceNeg, k4, k3] }; first | ((with_reducible refine optP_id ?_); refine optP_some ?_) | ((with_reducible refine condP_id ?_); first | refine qcy ?_ | refine qcx ?_ | refine qco ?_ | refine condP_decn (fun hc => ?_) (fun hc => ?_) | refine condP_dec (fun hc => ?_) (fun hc => ?_) | refine qct ?_ | refine qcf ?_ | refine condP_bool (fun hc => ?_) (fun hc => ?_)) | ((with_reducible refine condO_id ?_); refine condO_some ?_) | ((with_reducible refine resP_id ?_); refine resP_two ?_) | ((with_reducible refine callT_to ?_); refine callP_plain ?_))
    | refine wk_seq ?_ | refine wk_region ?_ | refine wo_nil ?_ | refine wk_ret ?_ | refine wk_nil ?_ | refine wo_dst rfl (opR_call ?_) | refine wo_nodst (opR_call ?_) | refine wo_dst rfl (opR_pick ?_) | refine wo_guard rfl rfl ?_ | refine wo_guardn rfl ?_ | refine wo_dst rfl (opR_pure ?_) | refine wo_nodst (opR_pure ?_)
    | refine give_ret ?_ | refine give_end ?_)
  exact ⟨⟨d, a, c, _, rfl, IIn.setQ (C := [.slice none 0 0, .int .i64 0]) (e' := 41) (rw' := true) (SlIn.gr hid (by (repeat (first | exact Gr.refl _ | assumption | (refine Gr.trans ?_ (by assumption)) | refine Gr.set ?_ (by first | exact Nat.le_refl _ | omega | (simp only [next_new, next_set]; omega)) _ | refine Gr.new ?_ _)))) (by simp (disch := first | assumption | omega) only [push_cast, ↓reduceIte, reduceIte, Nat.reduceEqDiff, Nat.reduceAdd, Nat.reduceSub, Nat.reduceMul, Nat.reduceBEq, Int.reduceNeg, k4, k3]) (by decide), ⟨hvd, by omega, by omega, by omega, fun hh => absurd hh hnd⟩, hun⟩, by (repeat (first | exact Gr.refl _ | assumption | (refine Gr.trans ?_ (by assumption)) | refine Gr.set ?_ (by first | exact Nat.le_refl _ | omega | (simp only [next_new, next_set]; omega)) _ | refine Gr.new ?_ _))⟩
theorem bs36_2 (a b : Option Addr) (n c m d : Nat) (s t : Int) : buildSliceA Tryz.prog 36 2 [(0, .agg #[.slice a n c, .int .i64 s]), (1, .agg #[.slice b m d, .int .i64 t])] = some (.cells [.slice a n c, .int .i64 s, .slice b m d, .int .i64 t] 41 true, fun k => .slice (some ⟨k, 0, none⟩) 2 (EX + 2)) := by kernel_rfl
attribute [push_cast] bs36_2
theorem pin_two {H : AHeap} {b : Nat} {l m : List Int} {s t : Int} {v u : Value} (hb : b < H.next) (hg : H.get b = some (.cells [v, .int .i64 s, u, .int .i64 t] 41 true)) (hv : IIn H v l) (hu : IIn H u m) (ov : okC v = true) (ou : okC u = true) : PIn H (.slice (some ⟨b, 0, none⟩) 2 (EX + 2)) [(l, s), (m, t)] := by
  refine ⟨[(v, s), (u, t)], rfl, own_in (l := [(v, s), (u, t)]) encP_len (by rw [capLo_ex]; exact Nat.le_refl _) (fun _ => hb) (fun _ => ⟨true, hg⟩), fun i h1 h2 => ?_⟩
  match i, h1 with
  | 0, _ => exact ⟨rfl, hv, ov⟩
  | 1, _ => exact ⟨rfl, hu, ou⟩
theorem sumU_two (l m : List Int) (s t : Int) : sumU [(l, s), (m, t)] 2 = unitN l s + unitN m t := by simp [sumU]
theorem sum_two {l m : List Int} {s t : Int} {r : Value} {H : AHeap} (h : sumR [(l, s), (m, t)] r H) (hl : okP l s) (hm : okP m t) : placeR (unitN l s + unitN m t) (-64) r H := by
  rcases h with ⟨q, _⟩ | ⟨_, i, hi, _, q, _⟩ | ⟨_, _, q⟩
  · exact absurd q (by simp)
  · match i, hi with
    | 0, _ => exact absurd (placeE_ok.2 hl) q
    | 1, _ => exact absurd (placeE_ok.2 hm) q
  · rw [← sumU_two]; exact q
theorem unit_one (k : Int) : unitN [1] k = 60 ^ (k + 64).toNat := by rw [unitN, valN_one, Nat.one_mul]
structure Held (p : Prop) : Prop where
  out : p
theorem sgn_le {X Y : Nat} (h : X ≤ Y) : sgnN X Y = 0 ∨ sgnN X Y = -1 := by
  unfold sgnN
  by_cases h1 : X < Y
  · rw [if_pos h1]; exact .inr rfl
  · rw [if_neg h1, if_neg (by omega)]; exact .inl rfl
theorem sgn_lt {X Y : Nat} (h : X < Y) : sgnN X Y = -1 := by unfold sgnN; rw [if_pos h]
set_option maxRecDepth 100000 in
set_option maxHeartbeats 8000000 in
theorem rootbounds_w (x y : Int) (h : AHeap) : Wc pr (.func 11) [.int .i64 x, .int .i64 y] h fun r h' => r = .bool true := by
  refine wc_func Tryz.func11 rfl rfl rfl rfl ?_
  repeat' (first
    | ((with_reducible first | refine optP_id ?_ | refine condP_id ?_ | refine condO_id ?_ | refine resP_id ?_ | refine callT_of ?_); conv => { arg 1; simp (disch := first | assumption | omega) only [push_cast, ↓reduceIte, reduceIte, Nat.reduceEqDiff, Nat.reduceAdd, Nat.reduceSub, Nat.reduceMul, Nat.reduceBEq, Int.reduceNeg] }; first | ((with_reducible refine optP_id ?_); refine optP_some ?_) | ((with_reducible refine condP_id ?_); first | refine qcy ?_ | refine qcx ?_ | refine qco ?_ | refine condP_decn (fun hc => ?_) (fun hc => ?_) | refine condP_dec (fun hc => ?_) (fun hc => ?_) | refine qct ?_ | refine qcf ?_ | refine condP_bool (fun hc => ?_) (fun hc => ?_)) | ((with_reducible refine condO_id ?_); refine condO_some ?_) | ((with_reducible refine resP_id ?_); refine resP_one ?_) | ((with_reducible refine callT_to ?_); refine callP_plain ?_))
    | refine wk_seq ?_ | refine wk_region ?_ | refine wk_block ?_ | refine wk_inBlock ?_ | refine wk_skip ?_ | refine wo_nil ?_ | refine wk_exit ?_ | refine exitK_code ?_ | refine exitK_hit ?_ | refine exitK_miss rfl ?_ | refine exitK_inLoop ?_ | refine wk_cond ?_ | refine wk_ret ?_ | refine wk_nil ?_ | refine wo_dst rfl (opR_call ?_) | refine wo_nodst (opR_call ?_) | refine wo_dst rfl (opR_pick ?_) | refine wo_guard rfl rfl ?_ | refine wo_guardn rfl ?_ | refine wo_dst rfl (opR_pure ?_) | refine wo_nodst (opR_pure ?_)
    | refine give_ret ?_ | refine give_end ?_)
  refine (bring_w x 1099511627776 (by omega) (by omega) _).mono ?_
  rintro _ _ ⟨rfl, rfl⟩
  obtain ⟨n, hn⟩ : ∃ n : Nat, 1 + x % 1099511627776 = (n : Int) := ⟨(1 + x % 1099511627776).toNat, by omega⟩
  have hn1 : 1 ≤ n := by omega
  have hn2 : n ≤ 1099511627776 := by omega
  generalize x % 1099511627776 = x1 at *
  repeat' (first
    | ((with_reducible first | refine optP_id ?_ | refine condP_id ?_ | refine condO_id ?_ | refine resP_id ?_ | refine callT_of ?_); conv => { arg 1; simp (disch := first | assumption | omega) only [push_cast, ↓reduceIte, reduceIte, Nat.reduceEqDiff, Nat.reduceAdd, Nat.reduceSub, Nat.reduceMul, Nat.reduceBEq, Int.reduceNeg, hn] }; first | ((with_reducible refine optP_id ?_); refine optP_some ?_) | ((with_reducible refine condP_id ?_); first | refine qcy ?_ | refine qcx ?_ | refine qco ?_ | refine condP_decn (fun hc => ?_) (fun hc => ?_) | refine condP_dec (fun hc => ?_) (fun hc => ?_) | refine qct ?_ | refine qcf ?_ | refine condP_bool (fun hc => ?_) (fun hc => ?_)) | ((with_reducible refine condO_id ?_); refine condO_some ?_) | ((with_reducible refine resP_id ?_); refine resP_one ?_) | ((with_reducible refine callT_to ?_); refine callP_plain ?_))
    | refine wk_seq ?_ | refine wk_region ?_ | refine wk_block ?_ | refine wk_inBlock ?_ | refine wk_skip ?_ | refine wo_nil ?_ | refine wk_exit ?_ | refine exitK_code ?_ | refine exitK_hit ?_ | refine exitK_miss rfl ?_ | refine exitK_inLoop ?_ | refine wk_cond ?_ | refine wk_ret ?_ | refine wk_nil ?_ | refine wo_dst rfl (opR_call ?_) | refine wo_nodst (opR_call ?_) | refine wo_dst rfl (opR_pick ?_) | refine wo_guard rfl rfl ?_ | refine wo_guardn rfl ?_ | refine wo_dst rfl (opR_pure ?_) | refine wo_nodst (opR_pure ?_)
    | refine give_ret ?_ | refine give_end ?_)
  refine (bring_w y 4 (by omega) (by omega) _).mono ?_
  rintro _ _ ⟨rfl, rfl⟩
  obtain ⟨dg, hdg⟩ : ∃ n : Nat, 1 + y % 4 = (n : Int) := ⟨(1 + y % 4).toNat, by omega⟩
  have hd1 : 1 ≤ dg := by omega
  have hd2 : dg ≤ 4 := by omega
  generalize y % 4 = y1 at *
  repeat' (first
    | ((with_reducible first | refine optP_id ?_ | refine condP_id ?_ | refine condO_id ?_ | refine resP_id ?_ | refine callT_of ?_); conv => { arg 1; simp (disch := first | assumption | omega) only [push_cast, ↓reduceIte, reduceIte, Nat.reduceEqDiff, Nat.reduceAdd, Nat.reduceSub, Nat.reduceMul, Nat.reduceBEq, Int.reduceNeg, hdg] }; first | ((with_reducible refine optP_id ?_); refine optP_some ?_) | ((with_reducible refine condP_id ?_); first | refine qcy ?_ | refine qcx ?_ | refine qco ?_ | refine condP_decn (fun hc => ?_) (fun hc => ?_) | refine condP_dec (fun hc => ?_) (fun hc => ?_) | refine qct ?_ | refine qcf ?_ | refine condP_bool (fun hc => ?_) (fun hc => ?_)) | ((with_reducible refine condO_id ?_); refine condO_some ?_) | ((with_reducible refine resP_id ?_); refine resP_one ?_) | ((with_reducible refine callT_to ?_); refine callP_plain ?_))
    | refine wk_seq ?_ | refine wk_region ?_ | refine wk_block ?_ | refine wk_inBlock ?_ | refine wk_skip ?_ | refine wo_nil ?_ | refine wk_exit ?_ | refine exitK_code ?_ | refine exitK_hit ?_ | refine exitK_miss rfl ?_ | refine exitK_inLoop ?_ | refine wk_cond ?_ | refine wk_ret ?_ | refine wk_nil ?_ | refine wo_dst rfl (opR_call ?_) | refine wo_nodst (opR_call ?_) | refine wo_dst rfl (opR_pick ?_) | refine wo_guard rfl rfl ?_ | refine wo_guardn rfl ?_ | refine wo_dst rfl (opR_pure ?_) | refine wo_nodst (opR_pure ?_)
    | refine give_ret ?_ | refine give_end ?_)
  refine (root_w (n : Int) (dg : Int) _).mono ?_
  rintro _ h1 ⟨hnr, g1⟩; have n1 := g1.1; have k1 := g1.2; try simp only [next_new, next_set] at n1 k1
  rcases hnr with ⟨q, _⟩ | ⟨_, n', dg', S, q, k, q1, q2, hk, hq1, hq2, v, sh, rfl, p1⟩
  · exact absurd ⟨by omega, by omega, by omega, by omega⟩ q
  obtain rfl : n = n' := by omega
  obtain rfl : dg = dg' := by omega
  have hkb : -4 ≤ k ∧ k ≤ 4 := by
    obtain ⟨_, _, ⟨a, _, rfl, ha, _⟩ | ⟨b, hb1, hb, _, rfl, _⟩⟩ := hk <;> omega
  obtain ⟨q3, q4⟩ := root_q hd1 hk.1 hk.2.1 hq1 hq2
  have q0 : q ≠ 0 := by have := pow60_pos (dg - 1); omega
  obtain ⟨d, a, c, e, rfl, hid, hok, hdn, hde, hsh, hval, hU⟩ := plR_at p1 q0 q4 (by omega) (by omega) (by omega)
  have hde2 : d.length + e = dg := by
    have h1 := valN_lt hok.1.1
    have h2 : q < 60 ^ (d.length + e) := by
      rw [← hval, Nat.pow_add]; exact Nat.mul_lt_mul_of_pos_right h1 (pow60_pos e)
    have h3 := (Nat.pow_lt_pow_iff_right (by decide : 1 < 60)).1 (Nat.lt_of_le_of_lt q3 h2)
    omega
  obtain ⟨z, hz⟩ : ∃ z : Nat, k + 64 = (z : Int) := ⟨(k + 64).toNat, by omega⟩
  rw [hz, Int.toNat_natCast] at hU
  have hO := unit_one k
  rw [hz, Int.toNat_natCast] at hO
  have okO : okP [1] k := ⟨one_valid, by simp, by omega, by omega, fun h => by cases h⟩
  have hs12 : unitN d sh + unitN [1] k = (q + 1) * 60 ^ z := by rw [hU, hO, Nat.add_mul, Nat.one_mul]
  have hsgn := fun {U V : Nat} (a : U * 60 ^ 64 = (q * 60 ^ z) * (q * 60 ^ z)) (b : V * 60 ^ 64 = ((q + 1) * 60 ^ z) * ((q + 1) * 60 ^ z)) => root_sgn hk hq1 hq2 hz a b
  have q5 : q + 1 < 60 ^ (dg + 1) := by
    have : 60 ^ (dg + 1) = 60 ^ dg * 60 := Nat.pow_succ 60 dg
    omega
  have q6 : q + 1 < 60 ^ 16 := Nat.lt_of_lt_of_le q5 (Nat.pow_le_pow_right (by decide) (by omega))
  have hsum : ∀ {r : Value} {H : AHeap}, sumR [(d, sh), ([1], k)] r H → placeR ((q + 1) * 60 ^ z) (-64) r H := fun hh => by rw [← hs12]; exact sum_two hh hok okO
  have hpl := fun {r : Value} {H : AHeap} (hh : sumR [(d, sh), ([1], k)] r H) => sum_valz (hsum hh) q6 (by omega) (by omega) (by omega)
  rw [← hU] at hsgn
  have hlen7 : ∀ d2 : List Int, (∀ K, q + 1 < 60 ^ K → d2.length ≤ K) → d2.length ≤ 7 := fun d2 hh => by have := hh _ q5; omega
  have hsub : (dg : Int) - (d.length : Int) = (e : Int) := by omega
  have hsub2 : sh - (e : Int) = k := by omega
  have he4 : e ≤ 4 := by omega
  clear q3 q4 q5 q6 hs12 hO hU hq1 hq2 hk hsum p1 hval q0 hde
  have hlen : ¬ (d.length : Int) > (dg : Int) := by omega
  have hlen1 : ¬ (d.length : Int) < 1 := by have := List.length_pos_iff.2 hdn; omega
  repeat' (first
    | ((with_reducible first | refine optP_id ?_ | refine condP_id ?_ | refine condO_id ?_ | refine resP_id ?_ | refine callT_of ?_); conv => { arg 1; simp (disch := first | assumption | omega) only [push_cast, ↓reduceIte, reduceIte, Nat.reduceEqDiff, Nat.reduceAdd, Nat.reduceSub, Nat.reduceMul, Nat.reduceBEq, Int.reduceNeg, k1] }; first | ((with_reducible refine optP_id ?_); refine optP_some ?_) | ((with_reducible refine condP_id ?_); first | refine qcy ?_ | refine qcx ?_ | refine qco ?_ | refine condP_decn (fun hc => ?_) (fun hc => ?_) | refine condP_dec (fun hc => ?_) (fun hc => ?_) | refine qct ?_ | refine qcf ?_ | refine condP_bool (fun hc => ?_) (fun hc => ?_)) | ((with_reducible refine condO_id ?_); refine condO_some ?_) | ((with_reducible refine resP_id ?_); refine resP_one ?_) | ((with_reducible refine callT_to ?_); refine callP_plain ?_))
    | refine wk_seq ?_ | refine wk_region ?_ | refine wk_block ?_ | refine wk_inBlock ?_ | refine wk_skip ?_ | refine wo_nil ?_ | refine wk_exit ?_ | refine exitK_code ?_ | refine exitK_hit ?_ | refine exitK_miss rfl ?_ | refine exitK_inLoop ?_ | refine wk_cond ?_ | refine wk_ret ?_ | refine wk_nil ?_ | refine wo_dst rfl (opR_call ?_) | refine wo_nodst (opR_call ?_) | refine wo_dst rfl (opR_pick ?_) | refine wo_guard rfl rfl ?_ | refine wo_guardn rfl ?_ | refine wo_dst rfl (opR_pure ?_) | refine wo_nodst (opR_pure ?_)
    | refine give_ret ?_ | refine give_end ?_)
  refine (checkplace_w d sh _ _ (SlIn.gr hid (by (repeat (first | exact Gr.refl _ | assumption | (refine Gr.trans ?_ (by assumption)) | refine Gr.set ?_ (by first | exact Nat.le_refl _ | omega | (simp only [next_new, next_set]; omega)) _ | refine Gr.new ?_ _)))) (by omega)).mono ?_
  rintro _ h2 ⟨rfl, g2⟩; have n2 := g2.1; have k2 := g2.2; try simp only [next_new, next_set] at n2 k2
  rw [placeE_ok.2 hok]
  repeat' (first
    | ((with_reducible first | refine optP_id ?_ | refine condP_id ?_ | refine condO_id ?_ | refine resP_id ?_ | refine callT_of ?_); conv => { arg 1; simp (disch := first | assumption | omega) only [push_cast, ↓reduceIte, reduceIte, Nat.reduceEqDiff, Nat.reduceAdd, Nat.reduceSub, Nat.reduceMul, Nat.reduceBEq, Int.reduceNeg, k1, k2, hsub, hsub2] }; first | ((with_reducible refine optP_id ?_); refine optP_some ?_) | ((with_reducible refine condP_id ?_); first | refine qcy ?_ | refine qcx ?_ | refine qco ?_ | refine condP_decn (fun hc => ?_) (fun hc => ?_) | refine condP_dec (fun hc => ?_) (fun hc => ?_) | refine qct ?_ | refine qcf ?_ | refine condP_bool (fun hc => ?_) (fun hc => ?_)) | ((with_reducible refine condO_id ?_); refine condO_some ?_) | ((with_reducible refine resP_id ?_); refine resP_one ?_) | ((with_reducible refine callT_to ?_); refine callP_plain ?_))
    | refine wk_seq ?_ | refine wk_region ?_ | refine wk_block ?_ | refine wk_inBlock ?_ | refine wk_skip ?_ | refine wo_nil ?_ | refine wk_exit ?_ | refine exitK_code ?_ | refine exitK_hit ?_ | refine exitK_miss rfl ?_ | refine exitK_inLoop ?_ | refine wk_cond ?_ | refine wk_ret ?_ | refine wk_nil ?_ | refine wo_dst rfl (opR_call ?_) | refine wo_nodst (opR_call ?_) | refine wo_dst rfl (opR_pick ?_) | refine wo_guard rfl rfl ?_ | refine wo_guardn rfl ?_ | refine wo_dst rfl (opR_pure ?_) | refine wo_nodst (opR_pure ?_)
    | refine give_ret ?_ | refine give_end ?_)
  refine (sum_w [(d, sh), ([1], k)] _ _ ?_ (by simp) ?_).mono ?_
  · exact pin_two (v := .slice a d.length c) (u := .slice (some ⟨h2.next, 0, none⟩) 1 (EX + 1)) (by simp only [next_new]; omega) (by simp (disch := first | assumption | omega) only [push_cast, ↓reduceIte, reduceIte, Nat.reduceEqDiff, Nat.reduceAdd, Nat.reduceSub, Nat.reduceMul, Nat.reduceBEq, Int.reduceNeg]) (SlIn.gr hid (by (repeat (first | exact Gr.refl _ | assumption | (refine Gr.trans ?_ (by assumption)) | refine Gr.set ?_ (by first | exact Nat.le_refl _ | omega | (simp only [next_new, next_set]; omega)) _ | refine Gr.new ?_ _)))) (onei_in (by simp only [next_new]; omega) (by simp (disch := first | assumption | omega) only [push_cast, ↓reduceIte, reduceIte, Nat.reduceEqDiff, Nat.reduceAdd, Nat.reduceSub, Nat.reduceMul, Nat.reduceBEq, Int.reduceNeg])) (okC_sl _ _ _) (okC_sl _ _ _)
  · intro i hi
    match i, hi with
    | 0, _ => show d.length ≤ 4611686018427387904; omega
    | 1, _ => show 1 ≤ 4611686018427387904; omega
  rintro r4 h4 ⟨hsu, g4⟩; have n4 := g4.1; have k4 := g4.2; try simp only [next_new, next_set] at n4 k4
  obtain ⟨d2, a2, c2, s2, rfl, hid2, hok2, hdn2, hU2, hl2, hs21, hs22, hK⟩ := hpl hsu
  have hl7 := hlen7 d2 hK
  rw [← hU2] at hsgn
  clear hpl hlen7 hsu hK hU2
  repeat' (first
    | ((with_reducible first | refine optP_id ?_ | refine condP_id ?_ | refine condO_id ?_ | refine resP_id ?_ | refine callT_of ?_); conv => { arg 1; simp (disch := first | assumption | omega) only [push_cast, ↓reduceIte, reduceIte, Nat.reduceEqDiff, Nat.reduceAdd, Nat.reduceSub, Nat.reduceMul, Nat.reduceBEq, Int.reduceNeg, k1, k2, k4] }; first | ((with_reducible refine optP_id ?_); refine optP_some ?_) | ((with_reducible refine condP_id ?_); first | refine qcy ?_ | refine qcx ?_ | refine qco ?_ | refine condP_decn (fun hc => ?_) (fun hc => ?_) | refine condP_dec (fun hc => ?_) (fun hc => ?_) | refine qct ?_ | refine qcf ?_ | refine condP_bool (fun hc => ?_) (fun hc => ?_)) | ((with_reducible refine condO_id ?_); refine condO_some ?_) | ((with_reducible refine resP_id ?_); refine resP_one ?_) | ((with_reducible refine callT_to ?_); refine callP_plain ?_))
    | refine wk_seq ?_ | refine wk_region ?_ | refine wk_block ?_ | refine wk_inBlock ?_ | refine wk_skip ?_ | refine wo_nil ?_ | refine wk_exit ?_ | refine exitK_code ?_ | refine exitK_hit ?_ | refine exitK_miss rfl ?_ | refine exitK_inLoop ?_ | refine wk_cond ?_ | refine wk_ret ?_ | refine wk_nil ?_ | refine wo_dst rfl (opR_call ?_) | refine wo_nodst (opR_call ?_) | refine wo_dst rfl (opR_pick ?_) | refine wo_guard rfl rfl ?_ | refine wo_guardn rfl ?_ | refine wo_dst rfl (opR_pure ?_) | refine wo_nodst (opR_pure ?_)
    | refine give_ret ?_ | refine give_end ?_)
  refine (of_w n (by omega) _).mono ?_
  rintro _ h5 ⟨⟨v1, m, e1, rfl, him, hvm, hve, hm8, he8, hz2⟩, g5⟩; have n5 := g5.1; have k5 := g5.2; try simp only [next_new, next_set] at n5 k5
  have hm0 : m ≠ [] := fun hh => by have := hz2.2 hh; omega
  obtain ⟨am, cm, rfl, _⟩ := id him
  repeat' (first
    | ((with_reducible first | refine optP_id ?_ | refine condP_id ?_ | refine condO_id ?_ | refine resP_id ?_ | refine callT_of ?_); conv => { arg 1; simp (disch := first | assumption | omega) only [push_cast, ↓reduceIte, reduceIte, Nat.reduceEqDiff, Nat.reduceAdd, Nat.reduceSub, Nat.reduceMul, Nat.reduceBEq, Int.reduceNeg, k1, k2, k4, k5] }; first | ((with_reducible refine optP_id ?_); refine optP_some ?_) | ((with_reducible refine condP_id ?_); first | refine qcy ?_ | refine qcx ?_ | refine qco ?_ | refine condP_decn (fun hc => ?_) (fun hc => ?_) | refine condP_dec (fun hc => ?_) (fun hc => ?_) | refine qct ?_ | refine qcf ?_ | refine condP_bool (fun hc => ?_) (fun hc => ?_)) | ((with_reducible refine condO_id ?_); refine condO_some ?_) | ((with_reducible refine resP_id ?_); refine resP_one ?_) | ((with_reducible refine callT_to ?_); refine callP_plain ?_))
    | refine wk_seq ?_ | refine wk_region ?_ | refine wk_block ?_ | refine wk_inBlock ?_ | refine wk_skip ?_ | refine wo_nil ?_ | refine wk_exit ?_ | refine exitK_code ?_ | refine exitK_hit ?_ | refine exitK_miss rfl ?_ | refine exitK_inLoop ?_ | refine wk_cond ?_ | refine wk_ret ?_ | refine wk_nil ?_ | refine wo_dst rfl (opR_call ?_) | refine wo_nodst (opR_call ?_) | refine wo_dst rfl (opR_pick ?_) | refine wo_guard rfl rfl ?_ | refine wo_guardn rfl ?_ | refine wo_dst rfl (opR_pure ?_) | refine wo_nodst (opR_pure ?_)
    | refine give_ret ?_ | refine give_end ?_)
  refine (whole_w m hvm (by omega) _ _ him).mono ?_
  rintro _ h6 ⟨rfl, g6⟩; have n6 := g6.1; have k6 := g6.2; try simp only [next_new, next_set] at n6 k6
  have hMp := valN_pos hvm hm0
  have hM1 : valN m ≤ n := by rw [← hve]; exact Nat.le_mul_of_pos_right _ (pow60_pos e1)
  rw [if_pos (by omega), if_pos (by omega)]
  have hlt60 : ∀ i, i < e1 → valN m * 60 ^ i < n := fun i hi => by
    rw [← hve]; exact Nat.mul_lt_mul_of_pos_left ((Nat.pow_lt_pow_iff_right (by decide)).2 hi) hMp
  have hle60 : ∀ i, i ≤ e1 → valN m * 60 ^ i ≤ n := fun i hi => by
    rw [← hve]; exact Nat.mul_le_mul_left _ (Nat.pow_le_pow_right (by decide) hi)
  have hst60 : ∀ i, valN m * 60 ^ (i + 1) = valN m * 60 ^ i * 60 := fun i => by rw [Nat.pow_succ, Nat.mul_assoc]
  have hz60 : valN m * 60 ^ 0 = valN m := by rw [Nat.pow_zero, Nat.mul_one]
  have hof : unitN m (e1 : Int) = n * 60 ^ 64 := by
    rw [unitN, show (e1 : Int) + 64 = ((e1 + 64 : Nat) : Int) by omega, Int.toNat_natCast, Nat.pow_add, ← Nat.mul_assoc, hve]
  have okof : okP m (e1 : Int) := ⟨hvm, by omega, by omega, by omega, fun hh => absurd hh hm0⟩
  rw [← hof] at hsgn
  clear hof
  generalize hM : valN m = M at *
  have cM : ¬ (M : Int) < 1 := by omega
  repeat' (first
    | ((with_reducible first | refine optP_id ?_ | refine condP_id ?_ | refine condO_id ?_ | refine resP_id ?_ | refine callT_of ?_); conv => { arg 1; simp (disch := first | assumption | omega) only [push_cast, ↓reduceIte, reduceIte, Nat.reduceEqDiff, Nat.reduceAdd, Nat.reduceSub, Nat.reduceMul, Nat.reduceBEq, Int.reduceNeg, k1, k2, k4, k5, k6] }; first | ((with_reducible refine optP_id ?_); refine optP_some ?_) | ((with_reducible refine condP_id ?_); first | refine qcy ?_ | refine qcx ?_ | refine qco ?_ | refine condP_decn (fun hc => ?_) (fun hc => ?_) | refine condP_dec (fun hc => ?_) (fun hc => ?_) | refine qct ?_ | refine qcf ?_ | refine condP_bool (fun hc => ?_) (fun hc => ?_)) | ((with_reducible refine condO_id ?_); refine condO_some ?_) | ((with_reducible refine resP_id ?_); refine resP_one ?_) | ((with_reducible refine callT_to ?_); refine callP_plain ?_))
    | refine wk_seq ?_ | refine wk_region ?_ | refine wk_block ?_ | refine wk_inBlock ?_ | refine wk_skip ?_ | refine wo_nil ?_ | refine wk_exit ?_ | refine exitK_code ?_ | refine exitK_hit ?_ | refine exitK_miss rfl ?_ | refine exitK_inLoop ?_ | refine wk_cond ?_ | refine wk_ret ?_ | refine wk_nil ?_ | refine wo_dst rfl (opR_call ?_) | refine wo_nodst (opR_call ?_) | refine wo_dst rfl (opR_pick ?_) | refine wo_guard rfl rfl ?_ | refine wo_guardn rfl ?_ | refine wo_dst rfl (opR_pure ?_) | refine wo_nodst (opR_pure ?_)
    | refine give_ret ?_ | refine give_end ?_)
  refine wk_loop (fun kk E H => ∃ i : Nat, kk = e1 - i ∧ i ≤ e1 ∧ h6.next < H.next ∧ Gr h6 H ∧ H.get h6.next = some (.cells [.slice am m.length cm, .int .i64 (i : Int)] 41 true) ∧ E.look 0 top = .int .i64 (n : Int) ∧ E.look 5 top = .pointer (some ⟨h1.next, 0, none⟩) ∧ E.look 8 top = .pointer (some ⟨h4.next, 0, none⟩) ∧ E.look 13 top = .pointer (some ⟨h6.next, 0, none⟩) ∧ E.look 14 top = .int .i64 ((M * 60 ^ i : Nat) : Int)) e1
    ⟨0, rfl, by omega, by simp only [next_new, next_set]; omega, by (repeat (first | exact Gr.refl _ | assumption | (refine Gr.trans ?_ (by assumption)) | refine Gr.set ?_ (by first | exact Nat.le_refl _ | omega | (simp only [next_new, next_set]; omega)) _ | refine Gr.new ?_ _)), by simp (disch := first | assumption | omega) only [push_cast, ↓reduceIte, reduceIte, Nat.reduceEqDiff, Nat.reduceAdd, Nat.reduceSub, Nat.reduceMul, Nat.reduceBEq, Int.reduceNeg, Int.natCast_zero], by simp (disch := first | assumption | omega) only [push_cast, ↓reduceIte, reduceIte, Nat.reduceEqDiff, Nat.reduceAdd, Nat.reduceSub, Nat.reduceMul, Nat.reduceBEq, Int.reduceNeg], by simp (disch := first | assumption | omega) only [push_cast, ↓reduceIte, reduceIte, Nat.reduceEqDiff, Nat.reduceAdd, Nat.reduceSub, Nat.reduceMul, Nat.reduceBEq, Int.reduceNeg], by simp (disch := first | assumption | omega) only [push_cast, ↓reduceIte, reduceIte, Nat.reduceEqDiff, Nat.reduceAdd, Nat.reduceSub, Nat.reduceMul, Nat.reduceBEq, Int.reduceNeg], by simp (disch := first | assumption | omega) only [push_cast, ↓reduceIte, reduceIte, Nat.reduceEqDiff, Nat.reduceAdd, Nat.reduceSub, Nat.reduceMul, Nat.reduceBEq, Int.reduceNeg], by rw [hz60]; simp (disch := first | assumption | omega) only [push_cast, ↓reduceIte, reduceIte, Nat.reduceEqDiff, Nat.reduceAdd, Nat.reduceSub, Nat.reduceMul, Nat.reduceBEq, Int.reduceNeg]⟩ ?_
  rintro kk E H ⟨i, rfl, hi, hnx, gr, hof, x0, x5, x8, x13, x14⟩ next
  have b1 := hle60 i hi
  have b2 := hst60 i
  have gn := gr.1
  by_cases hgo : i < e1
  · have b3 := hlt60 i hgo
    generalize M * 60 ^ i = Z at *
    have zn : (Z : Int) < (n : Int) := by omega
    repeat' (first
    | ((with_reducible first | refine optP_id ?_ | refine condP_id ?_ | refine condO_id ?_ | refine resP_id ?_ | refine callT_of ?_); conv => { arg 1; simp (disch := first | assumption | omega) only [push_cast, ↓reduceIte, reduceIte, Nat.reduceEqDiff, Nat.reduceAdd, Nat.reduceSub, Nat.reduceMul, Nat.reduceBEq, Int.reduceNeg, x0, x5, x8, x13, x14, hof] }; first | ((with_reducible refine optP_id ?_); refine optP_some ?_) | ((with_reducible refine condP_id ?_); first | refine qcy ?_ | refine qcx ?_ | refine qco ?_ | refine condP_decn (fun hc => ?_) (fun hc => ?_) | refine condP_dec (fun hc => ?_) (fun hc => ?_) | refine qct ?_ | refine qcf ?_ | refine condP_bool (fun hc => ?_) (fun hc => ?_)) | ((with_reducible refine condO_id ?_); refine condO_some ?_) | ((with_reducible refine resP_id ?_); refine resP_one ?_) | ((with_reducible refine callT_to ?_); refine callP_plain ?_))
    | refine wk_seq ?_ | refine wk_region ?_ | refine wk_block ?_ | refine wk_inBlock ?_ | refine wk_skip ?_ | refine wo_nil ?_ | refine wk_exit ?_ | refine exitK_code ?_ | refine exitK_hit ?_ | refine exitK_miss rfl ?_ | refine exitK_inLoop ?_ | refine wk_cond ?_ | refine wk_ret ?_ | refine wk_nil ?_ | refine wo_dst rfl (opR_call ?_) | refine wo_nodst (opR_call ?_) | refine wo_dst rfl (opR_pick ?_) | refine wo_guard rfl rfl ?_ | refine wo_guardn rfl ?_ | refine wo_dst rfl (opR_pure ?_) | refine wo_nodst (opR_pure ?_)
    | refine give_ret ?_ | refine give_end ?_)
    exact next (e1 - (i + 1)) _ _ (by omega) ⟨i + 1, rfl, by omega, by simp only [next_set]; omega, by (repeat (first | exact Gr.refl _ | assumption | (refine Gr.trans ?_ (by assumption)) | refine Gr.set ?_ (by first | exact Nat.le_refl _ | omega | (simp only [next_new, next_set]; omega)) _ | refine Gr.new ?_ _)), by rw [show ((i + 1 : Nat) : Int) = (i : Int) + 1 by omega]; simp (disch := first | assumption | omega) only [push_cast, ↓reduceIte, reduceIte, Nat.reduceEqDiff, Nat.reduceAdd, Nat.reduceSub, Nat.reduceMul, Nat.reduceBEq, Int.reduceNeg], by simp (disch := first | assumption | omega) only [push_cast, ↓reduceIte, reduceIte, Nat.reduceEqDiff, Nat.reduceAdd, Nat.reduceSub, Nat.reduceMul, Nat.reduceBEq, Int.reduceNeg, x0], by simp (disch := first | assumption | omega) only [push_cast, ↓reduceIte, reduceIte, Nat.reduceEqDiff, Nat.reduceAdd, Nat.reduceSub, Nat.reduceMul, Nat.reduceBEq, Int.reduceNeg, x5], by simp (disch := first | assumption | omega) only [push_cast, ↓reduceIte, reduceIte, Nat.reduceEqDiff, Nat.reduceAdd, Nat.reduceSub, Nat.reduceMul, Nat.reduceBEq, Int.reduceNeg, x8], by simp (disch := first | assumption | omega) only [push_cast, ↓reduceIte, reduceIte, Nat.reduceEqDiff, Nat.reduceAdd, Nat.reduceSub, Nat.reduceMul, Nat.reduceBEq, Int.reduceNeg, x13], by rw [b2, show ((Z * 60 : Nat) : Int) = (Z : Int) * 60 by omega]; simp (disch := first | assumption | omega) only [push_cast, ↓reduceIte, reduceIte, Nat.reduceEqDiff, Nat.reduceAdd, Nat.reduceSub, Nat.reduceMul, Nat.reduceBEq, Int.reduceNeg]⟩
  · obtain rfl : i = e1 := by omega
    rw [hve] at x14
    have zn : ¬ (n : Int) < (n : Int) := by omega
    have hp5 : H.get h1.next = some (.cells [.slice a d.length c, .int .i64 sh] 41 true) := by rw [gr.2 _ (by omega), k6 _ (by omega), k5 _ (by omega)]; simp (disch := first | assumption | omega) only [push_cast, ↓reduceIte, reduceIte, Nat.reduceEqDiff, Nat.reduceAdd, Nat.reduceSub, Nat.reduceMul, Nat.reduceBEq, Int.reduceNeg, k4, k2]
    have hp8 : H.get h4.next = some (.cells [.slice a2 d2.length c2, .int .i64 s2] 41 true) := by rw [gr.2 _ (by omega), k6 _ (by omega), k5 _ (by omega)]; simp (disch := first | assumption | omega) only [push_cast, ↓reduceIte, reduceIte, Nat.reduceEqDiff, Nat.reduceAdd, Nat.reduceSub, Nat.reduceMul, Nat.reduceBEq, Int.reduceNeg]
    clear next hlt60 hle60 hst60 hz60 hve b1 b2 hM1 hM
    repeat' (first
    | ((with_reducible first | refine optP_id ?_ | refine condP_id ?_ | refine condO_id ?_ | refine resP_id ?_ | refine callT_of ?_); conv => { arg 1; simp (disch := first | assumption | omega) only [push_cast, ↓reduceIte, reduceIte, Nat.reduceEqDiff, Nat.reduceAdd, Nat.reduceSub, Nat.reduceMul, Nat.reduceBEq, Int.reduceNeg, x0, x5, x8, x13, x14, hof, hp5, hp8] }; first | ((with_reducible refine optP_id ?_); refine optP_some ?_) | ((with_reducible refine condP_id ?_); first | refine qcy ?_ | refine qcx ?_ | refine qco ?_ | refine condP_decn (fun hc => ?_) (fun hc => ?_) | refine condP_dec (fun hc => ?_) (fun hc => ?_) | refine qct ?_ | refine qcf ?_ | refine condP_bool (fun hc => ?_) (fun hc => ?_)) | ((with_reducible refine condO_id ?_); refine condO_some ?_) | ((with_reducible refine resP_id ?_); refine resP_one ?_) | ((with_reducible refine callT_to ?_); refine callP_plain ?_))
    | refine wk_seq ?_ | refine wk_region ?_ | refine wk_block ?_ | refine wk_inBlock ?_ | refine wk_skip ?_ | refine wo_nil ?_ | refine wk_exit ?_ | refine exitK_code ?_ | refine exitK_hit ?_ | refine exitK_miss rfl ?_ | refine exitK_inLoop ?_ | refine wk_cond ?_ | refine wk_ret ?_ | refine wk_nil ?_ | refine wo_dst rfl (opR_call ?_) | refine wo_nodst (opR_call ?_) | refine wo_dst rfl (opR_pick ?_) | refine wo_guard rfl rfl ?_ | refine wo_guardn rfl ?_ | refine wo_dst rfl (opR_pure ?_) | refine wo_nodst (opR_pure ?_)
    | refine give_ret ?_ | refine give_end ?_)
    refine (lawsquare_w d sh hok.1 hdn (by omega) (by omega) (by omega) _ _ (SlIn.gr hid (by (repeat (first | exact Gr.refl _ | assumption | (refine Gr.trans ?_ (by assumption)) | refine Gr.set ?_ (by first | exact Nat.le_refl _ | omega | (simp only [next_new, next_set]; omega)) _ | refine Gr.new ?_ _))))).mono ?_
    rintro _ h7 ⟨⟨p, ap, cp, tp, rfl, hip, okp, hup⟩, g7⟩; have n7 := g7.1; have k7 := g7.2; try simp only [next_new, next_set] at n7 k7
    replace hup := Held.mk hup
    repeat' (first
    | ((with_reducible first | refine optP_id ?_ | refine condP_id ?_ | refine condO_id ?_ | refine resP_id ?_ | refine callT_of ?_); conv => { arg 1; simp (disch := first | assumption | omega) only [push_cast, ↓reduceIte, reduceIte, Nat.reduceEqDiff, Nat.reduceAdd, Nat.reduceSub, Nat.reduceMul, Nat.reduceBEq, Int.reduceNeg, x0, x5, x8, x13, x14, hof, hp5, hp8, k7] }; first | ((with_reducible refine optP_id ?_); refine optP_some ?_) | ((with_reducible refine condP_id ?_); first | refine qcy ?_ | refine qcx ?_ | refine qco ?_ | refine condP_decn (fun hc => ?_) (fun hc => ?_) | refine condP_dec (fun hc => ?_) (fun hc => ?_) | refine qct ?_ | refine qcf ?_ | refine condP_bool (fun hc => ?_) (fun hc => ?_)) | ((with_reducible refine condO_id ?_); refine condO_some ?_) | ((with_reducible refine resP_id ?_); refine resP_one ?_) | ((with_reducible refine callT_to ?_); refine callP_plain ?_))
    | refine wk_seq ?_ | refine wk_region ?_ | refine wk_block ?_ | refine wk_inBlock ?_ | refine wk_skip ?_ | refine wo_nil ?_ | refine wk_exit ?_ | refine exitK_code ?_ | refine exitK_hit ?_ | refine exitK_miss rfl ?_ | refine exitK_inLoop ?_ | refine wk_cond ?_ | refine wk_ret ?_ | refine wk_nil ?_ | refine wo_dst rfl (opR_call ?_) | refine wo_nodst (opR_call ?_) | refine wo_dst rfl (opR_pick ?_) | refine wo_guard rfl rfl ?_ | refine wo_guardn rfl ?_ | refine wo_dst rfl (opR_pure ?_) | refine wo_nodst (opR_pure ?_)
    | refine give_ret ?_ | refine give_end ?_)
    refine (lawsquare_w d2 s2 hok2.1 hdn2 hl7 (by omega) (by omega) _ _ (SlIn.gr hid2 (by (repeat (first | exact Gr.refl _ | assumption | (refine Gr.trans ?_ (by assumption)) | refine Gr.set ?_ (by first | exact Nat.le_refl _ | omega | (simp only [next_new, next_set]; omega)) _ | refine Gr.new ?_ _))))).mono ?_
    rintro _ h8 ⟨⟨q', aq, cq, tq, rfl, hiq, okq, huq⟩, g8⟩; have n8 := g8.1; have k8 := g8.2; try simp only [next_new, next_set] at n8 k8
    obtain ⟨w1, w2⟩ := hsgn hup.out huq
    clear hup huq hsgn
    have hs2' := Held.mk (sgn_lt w2)
    have hs1' := Held.mk (sgn_le w1)
    clear w1 w2
    repeat' (first
    | ((with_reducible first | refine optP_id ?_ | refine condP_id ?_ | refine condO_id ?_ | refine resP_id ?_ | refine callT_of ?_); conv => { arg 1; simp (disch := first | assumption | omega) only [push_cast, ↓reduceIte, reduceIte, Nat.reduceEqDiff, Nat.reduceAdd, Nat.reduceSub, Nat.reduceMul, Nat.reduceBEq, Int.reduceNeg, x0, x5, x8, x13, x14, hof, hp5, hp8, k7, k8] }; first | ((with_reducible refine optP_id ?_); refine optP_some ?_) | ((with_reducible refine condP_id ?_); first | refine qcy ?_ | refine qcx ?_ | refine qco ?_ | refine condP_decn (fun hc => ?_) (fun hc => ?_) | refine condP_dec (fun hc => ?_) (fun hc => ?_) | refine qct ?_ | refine qcf ?_ | refine condP_bool (fun hc => ?_) (fun hc => ?_)) | ((with_reducible refine condO_id ?_); refine condO_some ?_) | ((with_reducible refine resP_id ?_); refine resP_one ?_) | ((with_reducible refine callT_to ?_); refine callP_plain ?_))
    | refine wk_seq ?_ | refine wk_region ?_ | refine wk_block ?_ | refine wk_inBlock ?_ | refine wk_skip ?_ | refine wo_nil ?_ | refine wk_exit ?_ | refine exitK_code ?_ | refine exitK_hit ?_ | refine exitK_miss rfl ?_ | refine exitK_inLoop ?_ | refine wk_cond ?_ | refine wk_ret ?_ | refine wk_nil ?_ | refine wo_dst rfl (opR_call ?_) | refine wo_nodst (opR_call ?_) | refine wo_dst rfl (opR_pick ?_) | refine wo_guard rfl rfl ?_ | refine wo_guardn rfl ?_ | refine wo_dst rfl (opR_pure ?_) | refine wo_nodst (opR_pure ?_)
    | refine give_ret ?_ | refine give_end ?_)
    refine (compare_w p m tp (i : Int) _ _ _ (SlIn.gr hip (by (repeat (first | exact Gr.refl _ | assumption | (refine Gr.trans ?_ (by assumption)) | refine Gr.set ?_ (by first | exact Nat.le_refl _ | omega | (simp only [next_new, next_set]; omega)) _ | refine Gr.new ?_ _)))) (SlIn.gr him (by (repeat (first | exact Gr.refl _ | assumption | (refine Gr.trans ?_ (by assumption)) | refine Gr.set ?_ (by first | exact Nat.le_refl _ | omega | (simp only [next_new, next_set]; omega)) _ | refine Gr.new ?_ _)))) (okC_sl _ _ _) (okC_sl _ _ _) (by have := okp.2.1; omega) (by omega)).mono ?_
    rintro _ h9 ⟨rfl, g9⟩; have n9 := g9.1; have k9 := g9.2; try simp only [next_new, next_set] at n9 k9
    rw [if_neg (fun hh => hh (placeE_ok.2 okp)), if_neg (fun hh => hh (placeE_ok.2 okof))]
    obtain ⟨u1, hu1⟩ : ∃ u, sgnN (unitN p tp) (unitN m (i : Int)) = u := ⟨_, rfl⟩
    have hu2 : u1 = 0 ∨ u1 = -1 := by rw [← hu1]; exact hs1'.out
    rw [hu1]
    clear hu1
    have hul : u1 ≤ 0 := by omega
    clear hu2
    repeat' (first
    | ((with_reducible first | refine optP_id ?_ | refine condP_id ?_ | refine condO_id ?_ | refine resP_id ?_ | refine callT_of ?_); conv => { arg 1; simp (disch := first | assumption | omega) only [push_cast, ↓reduceIte, reduceIte, Nat.reduceEqDiff, Nat.reduceAdd, Nat.reduceSub, Nat.reduceMul, Nat.reduceBEq, Int.reduceNeg, x0, x5, x8, x13, x14, hof, hp5, hp8, k7, k8, k9] }; first | ((with_reducible refine optP_id ?_); refine optP_some ?_) | ((with_reducible refine condP_id ?_); first | refine qcy ?_ | refine qcx ?_ | refine qco ?_ | refine condP_decn (fun hc => ?_) (fun hc => ?_) | refine condP_dec (fun hc => ?_) (fun hc => ?_) | refine qct ?_ | refine qcf ?_ | refine condP_bool (fun hc => ?_) (fun hc => ?_)) | ((with_reducible refine condO_id ?_); refine condO_some ?_) | ((with_reducible refine resP_id ?_); refine resP_one ?_) | ((with_reducible refine callT_to ?_); refine callP_plain ?_))
    | refine wk_seq ?_ | refine wk_region ?_ | refine wk_block ?_ | refine wk_inBlock ?_ | refine wk_skip ?_ | refine wo_nil ?_ | refine wk_exit ?_ | refine exitK_code ?_ | refine exitK_hit ?_ | refine exitK_miss rfl ?_ | refine exitK_inLoop ?_ | refine wk_cond ?_ | refine wk_ret ?_ | refine wk_nil ?_ | refine wo_dst rfl (opR_call ?_) | refine wo_nodst (opR_call ?_) | refine wo_dst rfl (opR_pick ?_) | refine wo_guard rfl rfl ?_ | refine wo_guardn rfl ?_ | refine wo_dst rfl (opR_pure ?_) | refine wo_nodst (opR_pure ?_)
    | refine give_ret ?_ | refine give_end ?_)
    refine (compare_w m q' (i : Int) tq _ _ _ (SlIn.gr him (by (repeat (first | exact Gr.refl _ | assumption | (refine Gr.trans ?_ (by assumption)) | refine Gr.set ?_ (by first | exact Nat.le_refl _ | omega | (simp only [next_new, next_set]; omega)) _ | refine Gr.new ?_ _)))) (SlIn.gr hiq (by (repeat (first | exact Gr.refl _ | assumption | (refine Gr.trans ?_ (by assumption)) | refine Gr.set ?_ (by first | exact Nat.le_refl _ | omega | (simp only [next_new, next_set]; omega)) _ | refine Gr.new ?_ _)))) (okC_sl _ _ _) (okC_sl _ _ _) (by omega) (by have := okq.2.1; omega)).mono ?_
    rintro _ h10 ⟨rfl, g10⟩; have n10 := g10.1; have k10 := g10.2; try simp only [next_new, next_set] at n10 k10
    rw [if_neg (fun hh => hh (placeE_ok.2 okof)), if_neg (fun hh => hh (placeE_ok.2 okq)), hs2'.out]
    repeat' (first
    | ((with_reducible first | refine optP_id ?_ | refine condP_id ?_ | refine condO_id ?_ | refine resP_id ?_ | refine callT_of ?_); conv => { arg 1; simp (disch := first | assumption | omega) only [push_cast, ↓reduceIte, reduceIte, Nat.reduceEqDiff, Nat.reduceAdd, Nat.reduceSub, Nat.reduceMul, Nat.reduceBEq, Int.reduceNeg, x0, x5, x8, x13, x14, k10] }; first | ((with_reducible refine optP_id ?_); refine optP_some ?_) | ((with_reducible refine condP_id ?_); first | refine qcy ?_ | refine qcx ?_ | refine qco ?_ | refine condP_decn (fun hc => ?_) (fun hc => ?_) | refine condP_dec (fun hc => ?_) (fun hc => ?_) | refine qct ?_ | refine qcf ?_ | refine condP_bool (fun hc => ?_) (fun hc => ?_)) | ((with_reducible refine condO_id ?_); refine condO_some ?_) | ((with_reducible refine resP_id ?_); refine resP_one ?_) | ((with_reducible refine callT_to ?_); refine callP_plain ?_))
    | refine wk_seq ?_ | refine wk_region ?_ | refine wk_block ?_ | refine wk_inBlock ?_ | refine wk_skip ?_ | refine wo_nil ?_ | refine wk_exit ?_ | refine exitK_code ?_ | refine exitK_hit ?_ | refine exitK_miss rfl ?_ | refine exitK_inLoop ?_ | refine wk_cond ?_ | refine wk_ret ?_ | refine wk_nil ?_ | refine wo_dst rfl (opR_call ?_) | refine wo_nodst (opR_call ?_) | refine wo_dst rfl (opR_pick ?_) | refine wo_guard rfl rfl ?_ | refine wo_guardn rfl ?_ | refine wo_dst rfl (opR_pure ?_) | refine wo_nodst (opR_pure ?_)
    | (refine wc_known rfl ?_)
    | refine give_ret ?_ | refine give_end ?_)
    rfl
end Go.Proofs.YtelepfablohdmaaGreatDoor
