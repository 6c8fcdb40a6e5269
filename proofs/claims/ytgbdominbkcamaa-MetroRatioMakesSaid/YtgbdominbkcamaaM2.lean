/- Contracts of metro.Ratio and of the reference's made, Ratio. -/
import Derived.Test.YtgbdominbkcamaaM1
namespace Go.Proofs.Ytgbdominbkcamaa
open Go.RowKit

theorem below_drewN {B : Nat} {a w : World} (h : Below B a w) (n : Nat) : Below B a (w.drewN n) := ⟨h.os, h.tape, h.output, h.size, h.block⟩

/-- a ratio's parts and an error, as a call hands them back -/
def ratV (a b e : Int) : Value := .tuple #[.agg #[.int .i64 a, .int .i64 b], .int .i64 e]

set_option maxHeartbeats 1000000 in
theorem ratio_zero (n : Int) (w : World) :
    Calls Try.prog 15 #[.int .i64 n, .int .i64 0] w fun e w' => e = .returned (ratV 0 0 9) ∧ Below w.heap.size w w' := by
  go_enter Try.func15, Try.ntmps15
  go_wp2
  exact bodyPost_ret (v := ratV 0 0 9) (by simp [results, Try.results15, go_sem, ratV]) rfl ⟨rfl, by simpa using (Below.refl _ _).alloc (Nat.le_refl _) _⟩

set_option maxHeartbeats 1000000 in
theorem ratio_big1 (n d : Int) (t b : Nat) (h1 : -9223372036854775808 ≤ n) (h2 : n ≤ 9223372036854775807) (h3 : -9223372036854775808 ≤ d) (h4 : d ≤ 9223372036854775807) (hd : ¬ d = 0)
    (hg : ¬ ((n.natAbs.gcd d.natAbs : Nat) : Int) = 0) (ht : (n.natAbs : Int) / ((n.natAbs.gcd d.natAbs : Nat) : Int) = (t : Int)) (hb : (d.natAbs : Int) / ((n.natAbs.gcd d.natAbs : Nat) : Int) = (b : Int))
    (ht0 : 0 ≤ (t : Int)) (hb0 : 0 ≤ (b : Int)) (ht1 : (t : Int) ≤ 9223372036854775808) (hb1 : (b : Int) ≤ 9223372036854775808) (hbig : 1099511627776 < (t : Int)) (w : World) :
    Calls Try.prog 15 #[.int .i64 n, .int .i64 d] w fun e w' => e = .returned (ratV 0 0 6) ∧ Below w.heap.size w w' := by
  have t1 : n.natAbs < 18446744073709551616 := by omega
  have t2 : d.natAbs < 18446744073709551616 := by omega
  go_enter Try.func15, Try.ntmps15
  go_wp2_with (first | (go_at_call 73; refine (mag_c _ (by omega) (by omega) _).mono ?_; rintro e w' ⟨rfl, rfl⟩) | (go_at_call 74; refine (gcd_c _ _ t1 t2 _).mono ?_; rintro e w' ⟨rfl, nd, rfl⟩))
  all_goals (go_quiet (fail); go_wp2)
  all_goals first
    | exact bodyPost_ret (v := ratV 0 0 6) (by simp [results, Try.results15, go_sem, ratV]) rfl ⟨rfl, by
        repeat (first | exact Below.refl _ _ | refine Below.setCell ?_ (by simp) _ | refine Below.alloc ?_ (by simp) _ | refine below_drewN ?_ _)⟩


set_option maxHeartbeats 1000000 in
theorem ratio_big2 (n d : Int) (t b : Nat) (h1 : -9223372036854775808 ≤ n) (h2 : n ≤ 9223372036854775807) (h3 : -9223372036854775808 ≤ d) (h4 : d ≤ 9223372036854775807) (hd : ¬ d = 0)
    (hg : ¬ ((n.natAbs.gcd d.natAbs : Nat) : Int) = 0) (ht : (n.natAbs : Int) / ((n.natAbs.gcd d.natAbs : Nat) : Int) = (t : Int)) (hb : (d.natAbs : Int) / ((n.natAbs.gcd d.natAbs : Nat) : Int) = (b : Int))
    (ht0 : 0 ≤ (t : Int)) (hb0 : 0 ≤ (b : Int)) (ht1 : (t : Int) ≤ 1099511627776) (hb1 : (b : Int) ≤ 9223372036854775808) (hbig : 1048576 < (b : Int)) (w : World) :
    Calls Try.prog 15 #[.int .i64 n, .int .i64 d] w fun e w' => e = .returned (ratV 0 0 6) ∧ Below w.heap.size w w' := by
  have t1 : n.natAbs < 18446744073709551616 := by omega
  have t2 : d.natAbs < 18446744073709551616 := by omega
  go_enter Try.func15, Try.ntmps15
  go_wp2_with (first | (go_at_call 73; refine (mag_c _ (by omega) (by omega) _).mono ?_; rintro e w' ⟨rfl, rfl⟩) | (go_at_call 74; refine (gcd_c _ _ t1 t2 _).mono ?_; rintro e w' ⟨rfl, nd, rfl⟩))
  all_goals (go_quiet (fail); go_wp2)
  all_goals first
    | exact bodyPost_ret (v := ratV 0 0 6) (by simp [results, Try.results15, go_sem, ratV]) rfl ⟨rfl, by
        repeat (first | exact Below.refl _ _ | refine Below.setCell ?_ (by simp) _ | refine Below.alloc ?_ (by simp) _ | refine below_drewN ?_ _)⟩


set_option maxHeartbeats 1000000 in
theorem ratio_pos (n d : Int) (t b : Nat) (h1 : -9223372036854775808 ≤ n) (h2 : n ≤ 9223372036854775807) (h3 : -9223372036854775808 ≤ d) (h4 : d ≤ 9223372036854775807) (hd : ¬ d = 0)
    (hg : ¬ ((n.natAbs.gcd d.natAbs : Nat) : Int) = 0) (ht : (n.natAbs : Int) / ((n.natAbs.gcd d.natAbs : Nat) : Int) = (t : Int)) (hb : (d.natAbs : Int) / ((n.natAbs.gcd d.natAbs : Nat) : Int) = (b : Int))
    (ht0 : 0 ≤ (t : Int)) (hb0 : 0 ≤ (b : Int)) (ht1 : (t : Int) ≤ 1099511627776) (hb1 : (b : Int) ≤ 1048576) (hs : (decide (n < 0) != decide (d < 0)) = false) (w : World) :
    Calls Try.prog 15 #[.int .i64 n, .int .i64 d] w fun e w' => e = .returned (ratV t b 0) ∧ Below w.heap.size w w' := by
  have t1 : n.natAbs < 18446744073709551616 := by omega
  have t2 : d.natAbs < 18446744073709551616 := by omega
  go_enter Try.func15, Try.ntmps15
  go_wp2_with (first | (go_at_call 73; refine (mag_c _ (by omega) (by omega) _).mono ?_; rintro e w' ⟨rfl, rfl⟩) | (go_at_call 74; refine (gcd_c _ _ t1 t2 _).mono ?_; rintro e w' ⟨rfl, nd, rfl⟩))
  all_goals (go_quiet (fail); go_wp2)
  all_goals first
    | (exfalso; rename_i hx; cases hn : decide (n < 0) <;> cases hd' : decide (d < 0) <;> simp [hn, hd'] at hs hx; done)
    | exact bodyPost_ret (v := ratV t b 0) (by simp [results, Try.results15, go_sem, ratV]) rfl ⟨rfl, by
        repeat (first | exact Below.refl _ _ | refine Below.setCell ?_ (by simp) _ | refine Below.alloc ?_ (by simp) _ | refine below_drewN ?_ _)⟩


set_option maxHeartbeats 1000000 in
theorem ratio_neg (n d : Int) (t b : Nat) (h1 : -9223372036854775808 ≤ n) (h2 : n ≤ 9223372036854775807) (h3 : -9223372036854775808 ≤ d) (h4 : d ≤ 9223372036854775807) (hd : ¬ d = 0)
    (hg : ¬ ((n.natAbs.gcd d.natAbs : Nat) : Int) = 0) (ht : (n.natAbs : Int) / ((n.natAbs.gcd d.natAbs : Nat) : Int) = (t : Int)) (hb : (d.natAbs : Int) / ((n.natAbs.gcd d.natAbs : Nat) : Int) = (b : Int))
    (ht0 : 0 ≤ (t : Int)) (hb0 : 0 ≤ (b : Int)) (ht1 : (t : Int) ≤ 1099511627776) (hb1 : (b : Int) ≤ 1048576) (hs : (decide (n < 0) != decide (d < 0)) = true) (w : World) :
    Calls Try.prog 15 #[.int .i64 n, .int .i64 d] w fun e w' => e = .returned (ratV (-(t : Int)) b 0) ∧ Below w.heap.size w w' := by
  have t1 : n.natAbs < 18446744073709551616 := by omega
  have t2 : d.natAbs < 18446744073709551616 := by omega
  go_enter Try.func15, Try.ntmps15
  go_wp2_with (first | (go_at_call 73; refine (mag_c _ (by omega) (by omega) _).mono ?_; rintro e w' ⟨rfl, rfl⟩) | (go_at_call 74; refine (gcd_c _ _ t1 t2 _).mono ?_; rintro e w' ⟨rfl, nd, rfl⟩))
  all_goals (go_quiet (fail); go_wp2)
  all_goals first
    | (exfalso; rename_i hx; cases hn : decide (n < 0) <;> cases hd' : decide (d < 0) <;> simp [hn, hd'] at hs hx; done)
    | exact bodyPost_ret (v := ratV (-(t : Int)) b 0) (by simp [results, Try.results15, go_sem, ratV]) rfl ⟨rfl, by
        repeat (first | exact Below.refl _ _ | refine Below.setCell ?_ (by simp) _ | refine Below.alloc ?_ (by simp) _ | refine below_drewN ?_ _)⟩

end Go.Proofs.Ytgbdominbkcamaa
