/- Contracts of metro.magnitude, metro.gcd and of the reference's size, gcd. -/
import Derived.Test.YtgbdominbkcamaaRows
import Derived.WalkKit
import Derived.BigRegion
import Derived.BigQuiet
namespace Go.Proofs.Ytgbdominbkcamaa
open Go.RowKit

theorem ret_int {k : IntKind} {a b : Int} (h : a = b) : Ending.returned (.int k a) = .returned (.int k b) := by rw [h]

theorem wrap_u64 (x : Int) : IntKind.u64.wrap x = x % 18446744073709551616 := by
  simp [IntKind.wrap, IntKind.signed, IntKind.bits]

theorem mag_neg {n : Int} (h1 : -9223372036854775808 ≤ n) (hn : n < 0) : IntKind.u64.wrap (-IntKind.u64.wrap n) = (n.natAbs : Nat) := by
  rw [wrap_u64, wrap_u64]; omega

theorem mag_c (n : Int) (h1 : -9223372036854775808 ≤ n) (h2 : n ≤ 9223372036854775807) (w : World) :
    Calls Try.prog 73 #[.int .i64 n] w fun e w' => e = .returned (.int .u64 (n.natAbs : Nat)) ∧ w' = w := by
  by_cases hn : n < 0
  · go_enter Try.func73, Try.ntmps73
    go_wp2
    all_goals (go_ret; exact ⟨ret_int (mag_neg h1 hn), rfl⟩)
  · go_enter Try.func73, Try.ntmps73
    go_wp2
    all_goals (go_ret; exact ⟨ret_int (by omega), rfl⟩)

theorem gcd_step (a b : Nat) : Nat.gcd b (a % b) = Nat.gcd a b := by
  rw [Nat.gcd_comm a b, Nat.gcd_rec b a, Nat.gcd_comm]
theorem val_mod (a b : Nat) : Value.int .u64 ((a : Int) % (b : Int)) = Value.int .u64 ((a % b : Nat) : Int) := by simp
theorem meas_mod {a b : Nat} (hb : ¬ (b : Int) = 0) : (intOf (Value.int .u64 ((a : Int) % (b : Int)))).natAbs < (intOf (Value.int .u64 (b : Int))).natAbs := by
  have : a % b < b := Nat.mod_lt _ (by omega)
  rw [val_mod]
  show ((a % b : Nat) : Int).natAbs < ((b : Nat) : Int).natAbs
  rw [Int.natAbs_natCast, Int.natAbs_natCast]
  exact this

set_option maxHeartbeats 800000 in
theorem gcd_c (a0 b0 : Nat) (ha : a0 < 18446744073709551616) (hb : b0 < 18446744073709551616) (w : World) :
    Calls Try.prog 74 #[.int .u64 a0, .int .u64 b0] w fun e w' => e = .returned (.int .u64 (Nat.gcd a0 b0 : Nat)) ∧ ∃ n, w' = w.drewN n := by
  go_enter Try.func74, Try.ntmps74
  go_wp2
  go_loopw [0, 1] (fun va vb wr => ∃ (a b n : Nat), va = .int .u64 a ∧ vb = .int .u64 b ∧ a < 18446744073709551616 ∧ b < 18446744073709551616 ∧ Nat.gcd a b = Nat.gcd a0 b0 ∧ wr = w.drewN n) (fun _ vb _ => (intOf vb).natAbs)
  case atStart => exact ⟨a0, b0, 0, rfl, rfl, ha, hb, rfl, rfl⟩
  case round =>
    obtain ⟨a, b, n, rfl, rfl, hia, hib, hg, rfl⟩ := hrel
    go_wp2
    · have hb0 : ¬ (b : Int) = 0 := by simpa using ‹((b : Int) != 0) = true›
      go_region
      all_goals (try go_wp2)
      all_goals (
        go_roundw
        case rel => exact ⟨b, a % b, n + 1, rfl, val_mod a b, hib, Nat.lt_trans (Nat.mod_lt a (by omega)) hib, by rw [gcd_step, hg], rfl⟩
        case measure => exact meas_mod hb0)
    · have hb0 : b = 0 := by simpa using ‹((b : Int) != 0) = false›
      subst hb0
      go_ret
      exact ⟨ret_int (by rw [← hg]; simp), n, rfl⟩

theorem size_neg {n : Int} (h1 : -9223372036854775808 ≤ n) (hn : n < 0) : (-(n + 1)) + 1 = (n.natAbs : Nat) := by omega

theorem size_c (n : Int) (h1 : -9223372036854775808 ≤ n) (h2 : n ≤ 9223372036854775807) (w : World) :
    Calls Try.prog 76 #[.int .i64 n] w fun e w' => e = .returned (.int .u64 (n.natAbs : Nat)) ∧ w' = w := by
  by_cases hn : n < 0
  · go_enter Try.func76, Try.ntmps76
    go_wp2
    all_goals (go_ret; exact ⟨ret_int (size_neg h1 hn), rfl⟩)
  · go_enter Try.func76, Try.ntmps76
    go_wp2
    all_goals (go_ret; exact ⟨ret_int (by omega), rfl⟩)

set_option maxHeartbeats 800000 in
theorem rgcd_c (a0 b0 : Nat) (ha : a0 < 18446744073709551616) (hb : b0 < 18446744073709551616) (w : World) :
    Calls Try.prog 77 #[.int .u64 a0, .int .u64 b0] w fun e w' => e = .returned (.int .u64 (Nat.gcd a0 b0 : Nat)) ∧ w' = w := by
  go_enter Try.func77, Try.ntmps77
  go_wp2
  go_loop [0, 1] (fun va vb => ∃ (a b : Nat), va = .int .u64 a ∧ vb = .int .u64 b ∧ a < 18446744073709551616 ∧ b < 18446744073709551616 ∧ Nat.gcd a b = Nat.gcd a0 b0) (fun va _ => (intOf va).natAbs)
  case atStart => exact ⟨a0, b0, rfl, rfl, ha, hb, rfl⟩
  case round =>
    obtain ⟨a, b, rfl, rfl, hia, hib, hg⟩ := hrel
    by_cases ha0 : a = 0
    · subst ha0
      go_wp2
      go_ret
      exact ⟨ret_int (by rw [← hg]; simp), rfl⟩
    · have ha1 : ¬ (a : Int) = 0 := by omega
      go_wp2
      exact ⟨⟨b % a, a, val_mod b a, rfl, Nat.lt_trans (Nat.mod_lt b (by omega)) hia, hia, (Nat.gcd_rec a b).symm.trans hg⟩, meas_mod ha1⟩
end Go.Proofs.Ytgbdominbkcamaa
