/- Contract of the reference's made. -/
import Derived.Test.YtgbdominbkcamaaM2
namespace Go.Proofs.Ytgbdominbkcamaa
open Go.RowKit

set_option maxHeartbeats 1000000 in
theorem made_big1t (n d t b : Nat) (t1 : n < 18446744073709551616) (t2 : d < 18446744073709551616)
    (hg : ¬ ((n.gcd d : Nat) : Int) = 0) (ht : (n : Int) / ((n.gcd d : Nat) : Int) = (t : Int)) (hb : (d : Int) / ((n.gcd d : Nat) : Int) = (b : Int))
    (ht0 : 0 ≤ (t : Int)) (hb0 : 0 ≤ (b : Int)) (ht1 : (t : Int) ≤ 18446744073709551615) (hb1 : (b : Int) ≤ 18446744073709551615) (hbig : 1099511627776 < (t : Int)) (w : World) :
    Calls Try.prog 75 #[.bool true, .int .u64 n, .int .u64 d] w fun e w' => e = .returned (ratV 0 0 6) ∧ Below w.heap.size w w' := by
  go_enter Try.func75, Try.ntmps75
  go_wp2_with (first | (go_at_call 77; refine (rgcd_c _ _ t1 t2 _).mono ?_; rintro e w' ⟨rfl, rfl⟩))
  all_goals (go_quiet (fail); go_wp2)
  all_goals first
    | exact bodyPost_ret (v := ratV 0 0 6) (by simp [results, Try.results75, go_sem, ratV]) rfl ⟨rfl, by
        repeat (first | exact Below.refl _ _ | refine Below.setCell ?_ (by simp) _ | refine Below.alloc ?_ (by simp) _ | refine below_drewN ?_ _)⟩

set_option maxHeartbeats 1000000 in
theorem made_big1f (n d t b : Nat) (t1 : n < 18446744073709551616) (t2 : d < 18446744073709551616)
    (hg : ¬ ((n.gcd d : Nat) : Int) = 0) (ht : (n : Int) / ((n.gcd d : Nat) : Int) = (t : Int)) (hb : (d : Int) / ((n.gcd d : Nat) : Int) = (b : Int))
    (ht0 : 0 ≤ (t : Int)) (hb0 : 0 ≤ (b : Int)) (ht1 : (t : Int) ≤ 18446744073709551615) (hb1 : (b : Int) ≤ 18446744073709551615) (hbig : 1099511627776 < (t : Int)) (w : World) :
    Calls Try.prog 75 #[.bool false, .int .u64 n, .int .u64 d] w fun e w' => e = .returned (ratV 0 0 6) ∧ Below w.heap.size w w' := by
  go_enter Try.func75, Try.ntmps75
  go_wp2_with (first | (go_at_call 77; refine (rgcd_c _ _ t1 t2 _).mono ?_; rintro e w' ⟨rfl, rfl⟩))
  all_goals (go_quiet (fail); go_wp2)
  all_goals first
    | exact bodyPost_ret (v := ratV 0 0 6) (by simp [results, Try.results75, go_sem, ratV]) rfl ⟨rfl, by
        repeat (first | exact Below.refl _ _ | refine Below.setCell ?_ (by simp) _ | refine Below.alloc ?_ (by simp) _ | refine below_drewN ?_ _)⟩

set_option maxHeartbeats 1000000 in
theorem made_big2t (n d t b : Nat) (t1 : n < 18446744073709551616) (t2 : d < 18446744073709551616)
    (hg : ¬ ((n.gcd d : Nat) : Int) = 0) (ht : (n : Int) / ((n.gcd d : Nat) : Int) = (t : Int)) (hb : (d : Int) / ((n.gcd d : Nat) : Int) = (b : Int))
    (ht0 : 0 ≤ (t : Int)) (hb0 : 0 ≤ (b : Int)) (ht1 : (t : Int) ≤ 1099511627776) (hb1 : (b : Int) ≤ 18446744073709551615) (hbig : 1048576 < (b : Int)) (w : World) :
    Calls Try.prog 75 #[.bool true, .int .u64 n, .int .u64 d] w fun e w' => e = .returned (ratV 0 0 6) ∧ Below w.heap.size w w' := by
  go_enter Try.func75, Try.ntmps75
  go_wp2_with (first | (go_at_call 77; refine (rgcd_c _ _ t1 t2 _).mono ?_; rintro e w' ⟨rfl, rfl⟩))
  all_goals (go_quiet (fail); go_wp2)
  all_goals first
    | exact bodyPost_ret (v := ratV 0 0 6) (by simp [results, Try.results75, go_sem, ratV]) rfl ⟨rfl, by
        repeat (first | exact Below.refl _ _ | refine Below.setCell ?_ (by simp) _ | refine Below.alloc ?_ (by simp) _ | refine below_drewN ?_ _)⟩

set_option maxHeartbeats 1000000 in
theorem made_big2f (n d t b : Nat) (t1 : n < 18446744073709551616) (t2 : d < 18446744073709551616)
    (hg : ¬ ((n.gcd d : Nat) : Int) = 0) (ht : (n : Int) / ((n.gcd d : Nat) : Int) = (t : Int)) (hb : (d : Int) / ((n.gcd d : Nat) : Int) = (b : Int))
    (ht0 : 0 ≤ (t : Int)) (hb0 : 0 ≤ (b : Int)) (ht1 : (t : Int) ≤ 1099511627776) (hb1 : (b : Int) ≤ 18446744073709551615) (hbig : 1048576 < (b : Int)) (w : World) :
    Calls Try.prog 75 #[.bool false, .int .u64 n, .int .u64 d] w fun e w' => e = .returned (ratV 0 0 6) ∧ Below w.heap.size w w' := by
  go_enter Try.func75, Try.ntmps75
  go_wp2_with (first | (go_at_call 77; refine (rgcd_c _ _ t1 t2 _).mono ?_; rintro e w' ⟨rfl, rfl⟩))
  all_goals (go_quiet (fail); go_wp2)
  all_goals first
    | exact bodyPost_ret (v := ratV 0 0 6) (by simp [results, Try.results75, go_sem, ratV]) rfl ⟨rfl, by
        repeat (first | exact Below.refl _ _ | refine Below.setCell ?_ (by simp) _ | refine Below.alloc ?_ (by simp) _ | refine below_drewN ?_ _)⟩

set_option maxHeartbeats 1000000 in
theorem made_pos (n d t b : Nat) (t1 : n < 18446744073709551616) (t2 : d < 18446744073709551616)
    (hg : ¬ ((n.gcd d : Nat) : Int) = 0) (ht : (n : Int) / ((n.gcd d : Nat) : Int) = (t : Int)) (hb : (d : Int) / ((n.gcd d : Nat) : Int) = (b : Int))
    (ht0 : 0 ≤ (t : Int)) (hb0 : 0 ≤ (b : Int)) (ht1 : (t : Int) ≤ 1099511627776) (hb1 : (b : Int) ≤ 1048576) (w : World) :
    Calls Try.prog 75 #[.bool false, .int .u64 n, .int .u64 d] w fun e w' => e = .returned (ratV t b 0) ∧ Below w.heap.size w w' := by
  go_enter Try.func75, Try.ntmps75
  go_wp2_with (first | (go_at_call 77; refine (rgcd_c _ _ t1 t2 _).mono ?_; rintro e w' ⟨rfl, rfl⟩))
  all_goals (go_quiet (fail); go_wp2)
  all_goals first
    | exact bodyPost_ret (v := ratV t b 0) (by simp [results, Try.results75, go_sem, ratV]) rfl ⟨rfl, by
        repeat (first | exact Below.refl _ _ | refine Below.setCell ?_ (by simp) _ | refine Below.alloc ?_ (by simp) _ | refine below_drewN ?_ _)⟩

set_option maxHeartbeats 1000000 in
theorem made_neg (n d t b : Nat) (t1 : n < 18446744073709551616) (t2 : d < 18446744073709551616)
    (hg : ¬ ((n.gcd d : Nat) : Int) = 0) (ht : (n : Int) / ((n.gcd d : Nat) : Int) = (t : Int)) (hb : (d : Int) / ((n.gcd d : Nat) : Int) = (b : Int))
    (ht0 : 0 ≤ (t : Int)) (hb0 : 0 ≤ (b : Int)) (ht1 : (t : Int) ≤ 1099511627776) (hb1 : (b : Int) ≤ 1048576) (w : World) :
    Calls Try.prog 75 #[.bool true, .int .u64 n, .int .u64 d] w fun e w' => e = .returned (ratV (-(t : Int)) b 0) ∧ Below w.heap.size w w' := by
  go_enter Try.func75, Try.ntmps75
  go_wp2_with (first | (go_at_call 77; refine (rgcd_c _ _ t1 t2 _).mono ?_; rintro e w' ⟨rfl, rfl⟩))
  all_goals (go_quiet (fail); go_wp2)
  all_goals first
    | exact bodyPost_ret (v := ratV (-(t : Int)) b 0) (by simp [results, Try.results75, go_sem, ratV]) rfl ⟨rfl, by
        repeat (first | exact Below.refl _ _ | refine Below.setCell ?_ (by simp) _ | refine Below.alloc ?_ (by simp) _ | refine below_drewN ?_ _)⟩

/-- what is made of a sign, a numerator and a denominator -/
def ratS (neg : Bool) (n d : Nat) : Value :=
  if 1099511627776 < n / n.gcd d then ratV 0 0 6 else if 1048576 < d / n.gcd d then ratV 0 0 6 else if neg then ratV (-((n / n.gcd d : Nat) : Int)) ((d / n.gcd d : Nat) : Int) 0 else ratV ((n / n.gcd d : Nat) : Int) ((d / n.gcd d : Nat) : Int) 0

theorem gcd_ne {n d : Nat} (hd : d ≠ 0) : ¬ ((n.gcd d : Nat) : Int) = 0 := by
  have := Nat.gcd_pos_of_pos_right n (Nat.pos_of_ne_zero hd)
  omega

theorem made_c (neg : Bool) (n d : Nat) (t1 : n < 18446744073709551616) (t2 : d < 18446744073709551616) (hd : d ≠ 0) (w : World) :
    Calls Try.prog 75 #[.bool neg, .int .u64 n, .int .u64 d] w fun e w' => e = .returned (ratS neg n d) ∧ Below w.heap.size w w' := by
  have ht : (n : Int) / ((n.gcd d : Nat) : Int) = ((n / n.gcd d : Nat) : Int) := by simp
  have hb : (d : Int) / ((n.gcd d : Nat) : Int) = ((d / n.gcd d : Nat) : Int) := by simp
  have l1 : n / n.gcd d ≤ n := Nat.div_le_self _ _
  have l2 : d / n.gcd d ≤ d := Nat.div_le_self _ _
  have hg := gcd_ne (n := n) hd
  unfold ratS
  generalize n / n.gcd d = t at *
  generalize d / n.gcd d = b at *
  by_cases c1 : 1099511627776 < t
  · rw [if_pos c1]
    cases neg
    · exact made_big1f n d t b t1 t2 hg ht hb (by omega) (by omega) (by omega) (by omega) (by omega) w
    · exact made_big1t n d t b t1 t2 hg ht hb (by omega) (by omega) (by omega) (by omega) (by omega) w
  · rw [if_neg c1]
    by_cases c2 : 1048576 < b
    · rw [if_pos c2]
      cases neg
      · exact made_big2f n d t b t1 t2 hg ht hb (by omega) (by omega) (by omega) (by omega) (by omega) w
      · exact made_big2t n d t b t1 t2 hg ht hb (by omega) (by omega) (by omega) (by omega) (by omega) w
    · rw [if_neg c2]
      cases neg
      · exact made_pos n d t b t1 t2 hg ht hb (by omega) (by omega) (by omega) (by omega) w
      · exact made_neg n d t b t1 t2 hg ht hb (by omega) (by omega) (by omega) (by omega) w

theorem ratio_c (n d : Int) (h1 : -9223372036854775808 ≤ n) (h2 : n ≤ 9223372036854775807) (h3 : -9223372036854775808 ≤ d) (h4 : d ≤ 9223372036854775807) (hd : ¬ d = 0) (w : World) :
    Calls Try.prog 15 #[.int .i64 n, .int .i64 d] w fun e w' => e = .returned (ratS (decide (n < 0) != decide (d < 0)) n.natAbs d.natAbs) ∧ Below w.heap.size w w' := by
  have ht : (n.natAbs : Int) / ((n.natAbs.gcd d.natAbs : Nat) : Int) = ((n.natAbs / n.natAbs.gcd d.natAbs : Nat) : Int) := (Int.natCast_ediv _ _).symm
  have hb : (d.natAbs : Int) / ((n.natAbs.gcd d.natAbs : Nat) : Int) = ((d.natAbs / n.natAbs.gcd d.natAbs : Nat) : Int) := (Int.natCast_ediv _ _).symm
  have l1 : n.natAbs / n.natAbs.gcd d.natAbs ≤ n.natAbs := Nat.div_le_self _ _
  have l2 : d.natAbs / n.natAbs.gcd d.natAbs ≤ d.natAbs := Nat.div_le_self _ _
  have hg := gcd_ne (n := n.natAbs) (d := d.natAbs) (by omega)
  unfold ratS
  generalize n.natAbs / n.natAbs.gcd d.natAbs = t at *
  generalize d.natAbs / n.natAbs.gcd d.natAbs = b at *
  by_cases c1 : 1099511627776 < t
  · rw [if_pos c1]
    exact ratio_big1 n d t b h1 h2 h3 h4 hd hg ht hb (by omega) (by omega) (by omega) (by omega) (by omega) w
  · rw [if_neg c1]
    by_cases c2 : 1048576 < b
    · rw [if_pos c2]
      exact ratio_big2 n d t b h1 h2 h3 h4 hd hg ht hb (by omega) (by omega) (by omega) (by omega) (by omega) w
    · rw [if_neg c2]
      cases hs : (decide (n < 0) != decide (d < 0))
      · exact ratio_pos n d t b h1 h2 h3 h4 hd hg ht hb (by omega) (by omega) (by omega) (by omega) hs w
      · exact ratio_neg n d t b h1 h2 h3 h4 hd hg ht hb (by omega) (by omega) (by omega) (by omega) hs w
end Go.Proofs.Ytgbdominbkcamaa
