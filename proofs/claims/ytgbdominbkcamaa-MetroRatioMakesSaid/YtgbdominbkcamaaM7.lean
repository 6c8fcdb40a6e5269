/- Contracts of IsRatio, of the program and of the reference. -/
import Derived.Test.YtgbdominbkcamaaM6
import Derived.Deep.QuietTactic
namespace Go.Proofs.Ytgbdominbkcamaa
open Go.RowKit

theorem below_drewN' {B : Nat} {a w : World} (h : Below B a w) (n : Nat) : Below B a (w.drewN n) := ⟨h.os, h.tape, h.output, h.size, h.block⟩

def isB (n d : Int) : Bool := decide (1 ≤ d) && decide (d ≤ 1048576) && decide ((n.natAbs : Int) ≤ 1099511627776) && (((n.natAbs.gcd d.natAbs : Nat) : Int) == 1)

set_option maxHeartbeats 2000000 in
theorem isratio_c (n d : Int) (h1 : -9223372036854775808 ≤ n) (h2 : n ≤ 9223372036854775807) (w : World) :
    Calls Try.prog 17 #[.agg #[.int .i64 n, .int .i64 d]] w fun e w' => e = .returned (.bool (isB n d)) ∧ Below w.heap.size w w' := by
  unfold isB
  cases hd1 : decide (1 ≤ d)
  · go_enter Try.func17, Try.ntmps17
    go_wp2
    go_quiet (fail)
    go_wp2
    go_ret
    exact ⟨rfl, below_drewN' ((Below.refl _ _).alloc (Nat.le_refl _) _) _⟩
  · have g1 : 1 ≤ d := by simpa using hd1
    cases hd2 : decide (d ≤ 1048576)
    · go_enter Try.func17, Try.ntmps17
      go_wp2
      go_quiet (fail)
      go_wp2
      go_ret
      exact ⟨rfl, below_drewN' ((Below.refl _ _).alloc (Nat.le_refl _) _) _⟩
    · have g2 : d ≤ 1048576 := by simpa using hd2
      cases hd3 : decide ((n.natAbs : Int) ≤ 1099511627776)
      · go_enter Try.func17, Try.ntmps17
        go_wp2
        go_quiet ((go_at_call 73; exact Calls.quiet_of_same (mag_c _ (by omega) (by omega) _)))
        go_wp2
        go_ret
        exact ⟨rfl, below_drewN' ((Below.refl _ _).alloc (Nat.le_refl _) _) _⟩
      · have g3 : n.natAbs ≤ 1099511627776 := by have := of_decide_eq_true hd3; omega
        go_enter Try.func17, Try.ntmps17
        go_wp2
        go_quiet ((first | (go_at_call 73; exact Calls.quiet_of_same (mag_c _ (by omega) (by omega) _)) | (go_at_call 74; exact Calls.quiet_of (gcd_c _ _ (by omega) (by omega) _))))
        go_wp2
        go_ret
        exact ⟨by simp, below_drewN' ((Below.refl _ _).alloc (Nat.le_refl _) _) _⟩

set_option maxHeartbeats 2000000 in
theorem risratio_c (n d : Int) (h1 : -9223372036854775808 ≤ n) (h2 : n ≤ 9223372036854775807) (w : World) :
    Calls Try.prog 18 #[.agg #[.int .i64 n, .int .i64 d]] w fun e w' => e = .returned (.bool (isB n d)) ∧ Below w.heap.size w w' := by
  unfold isB
  cases hd1 : decide (1 ≤ d)
  · go_enter Try.func18, Try.ntmps18
    go_wp2
    go_quiet (fail)
    go_wp2
    go_ret
    exact ⟨rfl, below_drewN' ((Below.refl _ _).alloc (Nat.le_refl _) _) _⟩
  · have g1 : 1 ≤ d := by simpa using hd1
    cases hd2 : decide (d ≤ 1048576)
    · go_enter Try.func18, Try.ntmps18
      go_wp2
      go_quiet (fail)
      go_wp2
      go_ret
      exact ⟨rfl, below_drewN' ((Below.refl _ _).alloc (Nat.le_refl _) _) _⟩
    · have g2 : d ≤ 1048576 := by simpa using hd2
      cases hd3 : decide (-1099511627776 ≤ n)
      · have hd5 : decide ((n.natAbs : Int) ≤ 1099511627776) = false := by
          have := of_decide_eq_false hd3
          simp; omega
        rw [hd5]
        go_enter Try.func18, Try.ntmps18
        go_wp2
        go_quiet (fail)
        go_wp2
        go_ret
        exact ⟨rfl, below_drewN' ((Below.refl _ _).alloc (Nat.le_refl _) _) _⟩
      · cases hd4 : decide (n ≤ 1099511627776)
        · have hd5 : decide ((n.natAbs : Int) ≤ 1099511627776) = false := by
            have := of_decide_eq_false hd4
            simp; omega
          rw [hd5]
          go_enter Try.func18, Try.ntmps18
          go_wp2
          go_quiet (fail)
          go_wp2
          go_ret
          exact ⟨rfl, below_drewN' ((Below.refl _ _).alloc (Nat.le_refl _) _) _⟩
        · have g3 : -1099511627776 ≤ n := of_decide_eq_true hd3
          have g4 : n ≤ 1099511627776 := of_decide_eq_true hd4
          have hd5 : decide ((n.natAbs : Int) ≤ 1099511627776) = true := by simp; omega
          rw [hd5]
          go_enter Try.func18, Try.ntmps18
          go_wp2
          go_quiet ((first | (go_at_call 76; exact Calls.quiet_of_same (size_c _ (by omega) (by omega) _)) | (go_at_call 77; exact Calls.quiet_of_same (rgcd_c _ _ (by omega) (by omega) _))))
          go_wp2
          go_ret
          exact ⟨by simp, below_drewN' ((Below.refl _ _).alloc (Nat.le_refl _) _) _⟩
end Go.Proofs.Ytgbdominbkcamaa
