/- MetroRatioMakes: the walk. -/
import Derived.Test.YtgbdominbkcamaaM7
import Derived.Test.YtgbdominbkcamaaM4
import Derived.Test.YtgbdominbkcamaaEx
import Derived.Deep.RegionHeld3
import Derived.Deep.DeepCutAuto
namespace Go.Proofs.Ytgbdominbkcamaa
open Go.RowKit

theorem ratio_c' (n d : Int) (h1 : -9223372036854775808 ≤ n) (h2 : n ≤ 9223372036854775807) (h3 : -9223372036854775808 ≤ d) (h4 : d ≤ 9223372036854775807) (hd : ¬ d = 0) (w : World) :
    Calls Try.prog 15 #[.int .i64 n, .int .i64 d] w fun e w' => e = .returned (.tuple #[.agg #[.int .i64 (rN (decide (n < 0) != decide (d < 0)) n.natAbs d.natAbs), .int .i64 (rD n.natAbs d.natAbs)], .int .i64 (rE n.natAbs d.natAbs)]) ∧ Below w.heap.size w w' := by
  rw [← ratS_eq]; exact ratio_c n d h1 h2 h3 h4 hd w
theorem rratio_c' (n d : Int) (h1 : -9223372036854775808 ≤ n) (h2 : n ≤ 9223372036854775807) (h3 : -9223372036854775808 ≤ d) (h4 : d ≤ 9223372036854775807) (hd : ¬ d = 0) (w : World) :
    Calls Try.prog 16 #[.int .i64 n, .int .i64 d] w fun e w' => e = .returned (.tuple #[.agg #[.int .i64 (rN (decide (n < 0) != decide (d < 0)) n.natAbs d.natAbs), .int .i64 (rD n.natAbs d.natAbs)], .int .i64 (rE n.natAbs d.natAbs)]) ∧ Below w.heap.size w w' := by
  rw [← ratS_eq]; exact rratio_c n d h1 h2 h3 h4 hd w

/-- one result of Ratio, for every input -/
theorem ratio_some (n d : Int) (h1 : -9223372036854775808 ≤ n) (h2 : n ≤ 9223372036854775807) (h3 : -9223372036854775808 ≤ d) (h4 : d ≤ 9223372036854775807) : ∃ a b c : Int,
    (∀ w, Calls Try.prog 15 #[.int .i64 n, .int .i64 d] w fun e w' => e = .returned (.tuple #[.agg #[.int .i64 a, .int .i64 b], .int .i64 c]) ∧ Below w.heap.size w w') ∧
    (∀ w, Calls Try.prog 16 #[.int .i64 n, .int .i64 d] w fun e w' => e = .returned (.tuple #[.agg #[.int .i64 a, .int .i64 b], .int .i64 c]) ∧ Below w.heap.size w w') := by
  by_cases hd : d = 0
  · subst hd
    exact ⟨0, 0, 9, fun w => ratio_zero n w, fun w => rratio_zero n w⟩
  · exact ⟨_, _, _, fun w => ratio_c' n d h1 h2 h3 h4 hd w, fun w => rratio_c' n d h1 h2 h3 h4 hd w⟩

theorem held_keep {w W w' : World} {b1 b2 : Nat} {a b n d : Int} (h : Below w.heap.size w W ∧ b2 + 1 < W.heap.size ∧ W.cell? ⟨b1, 0, none⟩ = some (.int .i64 a) ∧ W.cell? ⟨b1, 1, none⟩ = some (.int .i64 b) ∧ W.cell? ⟨b2, 0, none⟩ = some (.int .i64 a) ∧ W.cell? ⟨b2, 1, none⟩ = some (.int .i64 b) ∧ W.cell? ⟨b2 + 1, 0, none⟩ = some (.int .i64 n) ∧ W.cell? ⟨b2 + 1, 1, none⟩ = some (.int .i64 d))
    (hb : Below W.heap.size W w') (hlt : b1 < b2) :
    Below w.heap.size w w' ∧ b2 + 1 < w'.heap.size ∧ w'.cell? ⟨b1, 0, none⟩ = some (.int .i64 a) ∧ w'.cell? ⟨b1, 1, none⟩ = some (.int .i64 b) ∧ w'.cell? ⟨b2, 0, none⟩ = some (.int .i64 a) ∧ w'.cell? ⟨b2, 1, none⟩ = some (.int .i64 b) ∧ w'.cell? ⟨b2 + 1, 0, none⟩ = some (.int .i64 n) ∧ w'.cell? ⟨b2 + 1, 1, none⟩ = some (.int .i64 d) := by
  obtain ⟨h0, hz, h1, h2, h3, h4, h5, h6⟩ := h
  obtain ⟨hc, _⟩ := bcell hb
  have hs := hb.size
  have hm : w.heap.size ≤ W.heap.size := h0.size
  exact ⟨h0.trans (hb.mono hm), by omega, by rw [hc _ _ (by omega)]; exact h1, by rw [hc _ _ (by omega)]; exact h2, by rw [hc _ _ (by omega)]; exact h3, by rw [hc _ _ (by omega)]; exact h4, by rw [hc _ _ (by omega)]; exact h5, by rw [hc _ _ (by omega)]; exact h6⟩

set_option maxHeartbeats 2000000 in
theorem makes_walk (n d : Int) (s : ByteArray) (h1 : -9223372036854775808 ≤ n) (h2 : n ≤ 9223372036854775807) (h3 : -9223372036854775808 ≤ d) (h4 : d ≤ 9223372036854775807) (hs : s.size ≤ maxLen) (w : World) :
    Calls Try.prog 3 #[.int .i64 n, .int .i64 d, .string s] w fun e w' => e = .returned (.bool true) ∧ Below w.heap.size w w' := by
  obtain ⟨a, b, c, hr, hrr⟩ := ratio_some n d h1 h2 h3 h4
  go_enter Try.func3, Try.ntmps3
  go_wp2_with (first | (go_at_call 15; refine (hr _).mono ?_; rintro e w1 ⟨rfl, hb1⟩) | (go_at_call 16; refine (hrr _).mono ?_; rintro e w2 ⟨rfl, hb2⟩))
  have z1 := hb1.size
  have z2 := hb2.size
  simp only [World.size_alloc] at z2
  obtain ⟨hc2, hf2⟩ := bcell hb2
  have c0 : w2.cell? ⟨w1.heap.size, 0, none⟩ = some (.int .i64 a) := by rw [hc2 _ _ (by simp)]; simp [go_sem]
  have c1 : w2.cell? ⟨w1.heap.size, 1, none⟩ = some (.int .i64 b) := by rw [hc2 _ _ (by simp)]; simp [go_sem]
  have hB : Below w.heap.size w (((w2.alloc (.cells #[.int .i64 a, .int .i64 b] 23)).alloc (.cells #[.int .i64 n, .int .i64 d] 23)).drew) :=
    ((((hb1.alloc (by omega) _).trans (hb2.mono (by simp; omega))).alloc (by omega) _).alloc (by simp; omega) _).drew
  have d0 : (((w2.alloc (.cells #[.int .i64 a, .int .i64 b] 23)).alloc (.cells #[.int .i64 n, .int .i64 d] 23)).drew).cell? ⟨w1.heap.size, 0, none⟩ = some (.int .i64 a) := by
    rw [((((Below.refl w2.heap.size w2).alloc (Nat.le_refl _) _).alloc (by simp) _).drew).cell (p := ⟨w1.heap.size, 0, none⟩) (by show w1.heap.size < w2.heap.size; omega)]
    exact c0
  have d1 : (((w2.alloc (.cells #[.int .i64 a, .int .i64 b] 23)).alloc (.cells #[.int .i64 n, .int .i64 d] 23)).drew).cell? ⟨w1.heap.size, 1, none⟩ = some (.int .i64 b) := by
    rw [((((Below.refl w2.heap.size w2).alloc (Nat.le_refl _) _).alloc (by simp) _).drew).cell (p := ⟨w1.heap.size, 1, none⟩) (by show w1.heap.size < w2.heap.size; omega)]
    exact c1
  have hN : w2.heap.size + 1 < (((w2.alloc (.cells #[.int .i64 a, .int .i64 b] 23)).alloc (.cells #[.int .i64 n, .int .i64 d] 23)).drew).heap.size := by simp
  go_region_held3 (fun w' => Below w.heap.size w w' ∧ w2.heap.size + 1 < w'.heap.size ∧ w'.cell? ⟨w1.heap.size, 0, none⟩ = some (.int .i64 a) ∧ w'.cell? ⟨w1.heap.size, 1, none⟩ = some (.int .i64 b) ∧ w'.cell? ⟨w2.heap.size, 0, none⟩ = some (.int .i64 a) ∧ w'.cell? ⟨w2.heap.size, 1, none⟩ = some (.int .i64 b) ∧ w'.cell? ⟨w2.heap.size + 1, 0, none⟩ = some (.int .i64 n) ∧ w'.cell? ⟨w2.heap.size + 1, 1, none⟩ = some (.int .i64 d)) (go_keep)
    (first | (go_at_call 17; refine (isratio_c _ _ h1 h2 _).mono ?_; rintro e w3 ⟨rfl, hb3⟩; have k3 := held_keep (w := w) (a := a) (b := b) (n := n) (d := d) (b1 := w1.heap.size) (b2 := w2.heap.size) ⟨(by first | assumption | (simp [go_sem]; done)), (by first | assumption | (simp [go_sem]; done)), (by first | assumption | (simp [go_sem]; done)), (by first | assumption | (simp [go_sem]; done)), (by first | assumption | (simp [go_sem]; done)), (by first | assumption | (simp [go_sem]; done)), (by first | assumption | (simp [go_sem]; done)), (by first | assumption | (simp [go_sem]; done))⟩ hb3 (by omega); obtain ⟨j1, j2, j3, j4, j5, j6, j7, j8⟩ := k3) | (go_at_call 18; refine (risratio_c _ _ h1 h2 _).mono ?_; rintro e w3 ⟨rfl, hb3⟩; have k3 := held_keep (w := w) (a := a) (b := b) (n := n) (d := d) (b1 := w1.heap.size) (b2 := w2.heap.size) ⟨(by first | assumption | (simp [go_sem]; done)), (by first | assumption | (simp [go_sem]; done)), (by first | assumption | (simp [go_sem]; done)), (by first | assumption | (simp [go_sem]; done)), (by first | assumption | (simp [go_sem]; done)), (by first | assumption | (simp [go_sem]; done)), (by first | assumption | (simp [go_sem]; done)), (by first | assumption | (simp [go_sem]; done))⟩ hb3 (by omega); obtain ⟨j1, j2, j3, j4, j5, j6, j7, j8⟩ := k3) | (go_at_call 19; refine (name_c s hs _).mono ?_; rintro e w3 ⟨rfl, hw3⟩; subst hw3) | (go_at_call 20; refine (rname_c s hs _).mono ?_; rintro e w3 ⟨rfl, hw3⟩; subst hw3) | (go_at_call 21; refine (works _).mono ?_; rintro e w3 ⟨rfl, hb3⟩; have k3 := held_keep (w := w) (a := a) (b := b) (n := n) (d := d) (b1 := w1.heap.size) (b2 := w2.heap.size) ⟨(by first | assumption | (simp [go_sem]; done)), (by first | assumption | (simp [go_sem]; done)), (by first | assumption | (simp [go_sem]; done)), (by first | assumption | (simp [go_sem]; done)), (by first | assumption | (simp [go_sem]; done)), (by first | assumption | (simp [go_sem]; done)), (by first | assumption | (simp [go_sem]; done)), (by first | assumption | (simp [go_sem]; done))⟩ hb3 (by omega); obtain ⟨j1, j2, j3, j4, j5, j6, j7, j8⟩ := k3))
  all_goals (go_wp2; go_ret; exact ⟨by simp, by assumption⟩)
end Go.Proofs.Ytgbdominbkcamaa
