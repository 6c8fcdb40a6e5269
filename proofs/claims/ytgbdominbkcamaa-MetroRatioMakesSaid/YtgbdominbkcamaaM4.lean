/- Contract of the reference's Ratio. -/
import Derived.Test.YtgbdominbkcamaaM3
namespace Go.Proofs.Ytgbdominbkcamaa
open Go.RowKit

def rN (neg : Bool) (n d : Nat) : Int := if 1099511627776 < n / n.gcd d ∨ 1048576 < d / n.gcd d then 0 else if neg then -((n / n.gcd d : Nat) : Int) else ((n / n.gcd d : Nat) : Int)
def rD (n d : Nat) : Int := if 1099511627776 < n / n.gcd d ∨ 1048576 < d / n.gcd d then 0 else ((d / n.gcd d : Nat) : Int)
def rE (n d : Nat) : Int := if 1099511627776 < n / n.gcd d ∨ 1048576 < d / n.gcd d then 6 else 0

theorem ratS_eq (neg : Bool) (n d : Nat) : ratS neg n d = .tuple #[.agg #[.int .i64 (rN neg n d), .int .i64 (rD n d)], .int .i64 (rE n d)] := by
  unfold ratS rN rD rE ratV
  by_cases c1 : 1099511627776 < n / n.gcd d
  · simp [c1]
  · by_cases c2 : 1048576 < d / n.gcd d
    · simp [c1, c2]
    · cases neg <;> simp [c1, c2]

theorem bcell {W w1 : World} (hb : Below W.heap.size W w1) : (∀ b o, b < W.heap.size → w1.cell? ⟨b, o, none⟩ = W.cell? ⟨b, o, none⟩) ∧ (∀ b o, b < W.heap.size → w1.frozen? ⟨b, o, none⟩ = W.frozen? ⟨b, o, none⟩) :=
  ⟨fun b o h => hb.cell (p := ⟨b, o, none⟩) h, fun b o h => hb.frozen (p := ⟨b, o, none⟩) h⟩

theorem made_c' (neg : Bool) (n d : Nat) (t1 : n < 18446744073709551616) (t2 : d < 18446744073709551616) (hd : d ≠ 0) (w : World) :
    Calls Try.prog 75 #[.bool neg, .int .u64 n, .int .u64 d] w fun e w' => e = .returned (.tuple #[.agg #[.int .i64 (rN neg n d), .int .i64 (rD n d)], .int .i64 (rE n d)]) ∧ Below w.heap.size w w' := by
  rw [← ratS_eq]; exact made_c neg n d t1 t2 hd w

set_option maxHeartbeats 1000000 in
theorem rratio_zero (n : Int) (w : World) :
    Calls Try.prog 16 #[.int .i64 n, .int .i64 0] w fun e w' => e = .returned (ratV 0 0 9) ∧ Below w.heap.size w w' := by
  go_enter Try.func16, Try.ntmps16
  go_wp2
  exact bodyPost_ret (v := ratV 0 0 9) (by simp [results, Try.results16, go_sem, ratV]) rfl ⟨rfl, by simpa using (Below.refl _ _).alloc (Nat.le_refl _) _⟩

set_option maxHeartbeats 1000000 in
theorem rratio_c (n d : Int) (h1 : -9223372036854775808 ≤ n) (h2 : n ≤ 9223372036854775807) (h3 : -9223372036854775808 ≤ d) (h4 : d ≤ 9223372036854775807) (hd : ¬ d = 0) (w : World) :
    Calls Try.prog 16 #[.int .i64 n, .int .i64 d] w fun e w' => e = .returned (ratS (decide (n < 0) != decide (d < 0)) n.natAbs d.natAbs) ∧ Below w.heap.size w w' := by
  have t1 : n.natAbs < 18446744073709551616 := by omega
  have t2 : d.natAbs < 18446744073709551616 := by omega
  have t3 : d.natAbs ≠ 0 := by omega
  rw [ratS_eq]
  go_enter Try.func16, Try.ntmps16
  go_wp2_with (first | (go_at_call 76; refine (size_c _ (by omega) (by omega) _).mono ?_; rintro e w' ⟨rfl, rfl⟩) | (go_at_call 75; refine (made_c' _ _ _ t1 t2 t3 _).mono ?_; rintro e w1 ⟨rfl, hb⟩; obtain ⟨hc, hf⟩ := bcell hb; have hz : w.heap.size < w1.heap.size := (by have := hb.size; simp at this; omega)))
  exact bodyPost_ret (v := .tuple #[.agg #[.int .i64 (rN (decide (n < 0) != decide (d < 0)) n.natAbs d.natAbs), .int .i64 (rD n.natAbs d.natAbs)], .int .i64 (rE n.natAbs d.natAbs)]) (by simp [results, Try.results16, go_sem, hc, hz, bne]) rfl
    ⟨rfl, Below.setCell (Below.setCell (((Below.refl _ _).alloc (Nat.le_refl _) _).trans (hb.mono (by simp))) (by simp) _) (by simp) _⟩
end Go.Proofs.Ytgbdominbkcamaa
