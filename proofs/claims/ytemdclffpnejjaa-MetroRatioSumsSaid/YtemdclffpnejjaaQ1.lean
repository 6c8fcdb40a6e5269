/- Pairwise cancelling of two lists of numbers: plain mathematics. -/
import Derived.Test.YtemdclffpnejjaaG9
namespace Go.Proofs.Ytemdclffpnejjaa
open Go.Ev
/-- all numbers of two lists, other than zero, up to (i, j) have no common divisor -/
def Free (U D : List Int) (i j : Nat) : Prop := ∀ i' j' (h1 : i' < U.length) (h2 : j' < D.length), (i' < i ∨ i' = i ∧ j' < j) → Nat.gcd U[i'].natAbs D[j'].natAbs = 1

/-- a product divides by what one of its numbers divides by -/
theorem prodL_set {l : List Int} {i : Nat} (h : i < l.length) {x g : Int} (e : l[i] = g * x) : prodL l = g * prodL (l.set i x) := by
  have key : ∀ (l : List Int) (a : Int), l.foldl (· * ·) a = a * prodL l := by
    intro l
    induction l with
    | nil => intro a; simp [prodL]
    | cons y l ih => intro a; show l.foldl (· * ·) (a * y) = a * l.foldl (· * ·) (1 * y); rw [ih, ih, Int.one_mul, Int.mul_assoc]
  have hcons : ∀ (y : Int) (l : List Int), prodL (y :: l) = y * prodL l := by
    intro y l; show l.foldl (· * ·) (1 * y) = _; rw [key, Int.one_mul]
  induction l generalizing i with
  | nil => exact absurd h (Nat.not_lt_zero i)
  | cons y l ih =>
    cases i with
    | zero =>
      simp at e
      rw [List.set_cons_zero, hcons, hcons, e, Int.mul_assoc]
    | succ i =>
      rw [List.set_cons_succ, hcons, hcons, ih (by simpa using h) (by simpa using e)]
      rw [← Int.mul_assoc, ← Int.mul_assoc, Int.mul_comm y g]

theorem prodL_coprime {l : List Int} {n : Nat} (h : ∀ x ∈ l, Nat.gcd x.natAbs n = 1) : Nat.gcd (prodL l).natAbs n = 1 := by
  have key : ∀ (k : Nat), k ≤ l.length → Nat.gcd (prodL (l.take k)).natAbs n = 1 := by
    intro k
    induction k with
    | zero => intro _; show Nat.gcd (1 : Int).natAbs n = 1; exact Nat.gcd_one_left n
    | succ k ih =>
      intro hk
      have hlt : k < l.length := by omega
      rw [prodL_take hlt, Int.natAbs_mul]
      exact Nat.Coprime.mul_left (ih (by omega)) (h _ (List.getElem_mem hlt))
  have := key l.length (Nat.le_refl _)
  rwa [List.take_length] at this

theorem prodL_coprime2 {U D : List Int} (h : ∀ x ∈ U, ∀ y ∈ D, Nat.gcd x.natAbs y.natAbs = 1) : Nat.gcd (prodL U).natAbs (prodL D).natAbs = 1 := by
  refine prodL_coprime fun x hx => ?_
  rw [Nat.gcd_comm]
  refine prodL_coprime fun y hy => ?_
  rw [Nat.gcd_comm]
  exact h x hx y hy

/-- what one step of cancelling keeps -/
structure Cancel (U0 D0 U D : List Int) (i j : Nat) : Prop where
  lu : U.length = U0.length
  ld : D.length = D0.length
  nu : ∀ x ∈ U, x ≠ 0
  nd : ∀ x ∈ D, x ≠ 0
  bu : ∀ k (h : k < U.length) (h0 : k < U0.length), U[k].natAbs ≤ U0[k].natAbs
  bd : ∀ k (h : k < D.length) (h0 : k < D0.length), D[k].natAbs ≤ D0[k].natAbs
  eq : prodL U0 * prodL D = prodL U * prodL D0
  free : Free U D i j

theorem cancel_start {U D : List Int} (nu : ∀ x ∈ U, x ≠ 0) (nd : ∀ x ∈ D, x ≠ 0) : Cancel U D U D 0 0 :=
  ⟨rfl, rfl, nu, nd, fun _ _ _ => Nat.le_refl _, fun _ _ _ => Nat.le_refl _, rfl, fun i' j' _ _ h => by omega⟩

theorem mem_set' {l : List Int} {i : Nat} {x y : Int} (h : y ∈ l.set i x) : y ∈ l ∨ y = x := List.mem_or_eq_of_mem_set h

theorem cancel_step {U0 D0 U D : List Int} {i j : Nat} (c : Cancel U0 D0 U D i j) (hi : i < U.length) (hj : j < D.length) {g x y : Int} (hg : 0 < g) (hx : U[i] = g * x) (hy : D[j] = g * y) (hc : Nat.gcd x.natAbs y.natAbs = 1) : Cancel U0 D0 (U.set i x) (D.set j y) i (j + 1) := by
  have x0 : x ≠ 0 := fun h => c.nu _ (List.getElem_mem hi) (by rw [hx, h, Int.mul_zero])
  have y0 : y ≠ 0 := fun h => c.nd _ (List.getElem_mem hj) (by rw [hy, h, Int.mul_zero])
  have lx : x.natAbs ∣ U[i].natAbs := ⟨g.natAbs, by rw [hx, Int.natAbs_mul, Nat.mul_comm]⟩
  have ly : y.natAbs ∣ D[j].natAbs := ⟨g.natAbs, by rw [hy, Int.natAbs_mul, Nat.mul_comm]⟩
  refine ⟨by rw [List.length_set, c.lu], by rw [List.length_set, c.ld], fun z hz => ?_, fun z hz => ?_, fun k h h0 => ?_, fun k h h0 => ?_, ?_, ?_⟩
  · rcases mem_set' hz with h | h
    · exact c.nu z h
    · rw [h]; exact x0
  · rcases mem_set' hz with h | h
    · exact c.nd z h
    · rw [h]; exact y0
  · rw [List.getElem_set]
    by_cases e : i = k
    · rw [if_pos e]
      subst e
      exact Nat.le_trans (Nat.le_of_dvd (by have := c.nu _ (List.getElem_mem hi); omega) lx) (c.bu i hi h0)
    · rw [if_neg e]
      exact c.bu k (by simpa using h) h0
  · rw [List.getElem_set]
    by_cases e : j = k
    · rw [if_pos e]
      subst e
      exact Nat.le_trans (Nat.le_of_dvd (by have := c.nd _ (List.getElem_mem hj); omega) ly) (c.bd j hj h0)
    · rw [if_neg e]
      exact c.bd k (by simpa using h) h0
  · have e1 := prodL_set hi hx
    have e2 := prodL_set hj hy
    have e := c.eq
    rw [e1, e2] at e
    have e3 : g * (prodL U0 * prodL (D.set j y)) = g * (prodL (U.set i x) * prodL D0) := by
      have k1 : prodL U0 * (g * prodL (D.set j y)) = g * (prodL U0 * prodL (D.set j y)) := by ac_rfl
      have k2 : g * prodL (U.set i x) * prodL D0 = g * (prodL (U.set i x) * prodL D0) := by ac_rfl
      rw [← k1, ← k2]; exact e
    exact Int.eq_of_mul_eq_mul_left (by omega) e3
  · intro i' j' h1 h2 ho
    rw [List.getElem_set, List.getElem_set]
    have h1' : i' < U.length := by simpa using h1
    have h2' : j' < D.length := by simpa using h2
    by_cases ei : i = i'
    · subst ei
      rw [if_pos rfl]
      by_cases ej : j = j'
      · subst ej
        rw [if_pos rfl]
        exact hc
      · rw [if_neg ej]
        have := c.free i j' h1' h2' (by omega)
        exact Nat.Coprime.coprime_dvd_left lx this
    · rw [if_neg ei]
      by_cases ej : j = j'
      · subst ej
        rw [if_pos rfl]
        have := c.free i' j h1' h2' (by omega)
        exact Nat.Coprime.coprime_dvd_right ly this
      · rw [if_neg ej]
        exact c.free i' j' h1' h2' (by omega)

theorem cancel_row {U0 D0 U D : List Int} {i j : Nat} (c : Cancel U0 D0 U D i j) (hj : D.length ≤ j) : Cancel U0 D0 U D (i + 1) 0 :=
  ⟨c.lu, c.ld, c.nu, c.nd, c.bu, c.bd, c.eq, fun i' j' h1 h2 ho => c.free i' j' h1 h2 (by omega)⟩

/-- at the end: the same fraction, in lowest terms -/
theorem cancel_end {U0 D0 U D : List Int} {i : Nat} (c : Cancel U0 D0 U D i 0) (hi : U.length ≤ i) : Nat.gcd (prodL U).natAbs (prodL D).natAbs = 1 := by
  refine prodL_coprime2 fun x hx y hy => ?_
  obtain ⟨k, hk, rfl⟩ := List.getElem_of_mem hx
  obtain ⟨m, hm, rfl⟩ := List.getElem_of_mem hy
  exact c.free k m hk hm (by omega)

theorem gcd_split {a b : Int} (h : 0 < Nat.gcd a.natAbs b.natAbs) : a = ((Nat.gcd a.natAbs b.natAbs : Nat) : Int) * a.tdiv ((Nat.gcd a.natAbs b.natAbs : Nat) : Int) ∧ b = ((Nat.gcd a.natAbs b.natAbs : Nat) : Int) * b.tdiv ((Nat.gcd a.natAbs b.natAbs : Nat) : Int) ∧
    Nat.gcd (a.tdiv ((Nat.gcd a.natAbs b.natAbs : Nat) : Int)).natAbs (b.tdiv ((Nat.gcd a.natAbs b.natAbs : Nat) : Int)).natAbs = 1 := by
  have d1 : ((Nat.gcd a.natAbs b.natAbs : Nat) : Int) ∣ a := Int.ofNat_dvd_left.2 (Nat.gcd_dvd_left _ _)
  have d2 : ((Nat.gcd a.natAbs b.natAbs : Nat) : Int) ∣ b := Int.ofNat_dvd_left.2 (Nat.gcd_dvd_right _ _)
  refine ⟨(Int.mul_tdiv_cancel' d1).symm, (Int.mul_tdiv_cancel' d2).symm, ?_⟩
  rw [Int.natAbs_tdiv, Int.natAbs_tdiv]
  exact Nat.coprime_div_gcd_div_gcd h
end Go.Proofs.Ytemdclffpnejjaa
