/- Contracts of IsName, of the program and of the reference. -/
import Derived.Test.YtgbdominbkcamaaM1
namespace Go.Proofs.Ytgbdominbkcamaa
open Go.RowKit

theorem ret_bool {a b : Bool} (h : a = b) : Ending.returned (.bool a) = .returned (.bool b) := by rw [h]

def letB (c : Int) : Bool := decide (97 ≤ c) && decide (c ≤ 122)
def digB (c : Int) : Bool := decide (48 ≤ c) && decide (c ≤ 57)

theorem letter_c (c : Int) (h0 : 0 ≤ c) (h1 : c ≤ 255) (w : World) : Calls Try.prog 78 #[.int .u8 c] w fun e w' => e = .returned (.bool (letB c)) ∧ w' = w := by
  by_cases h2 : 97 ≤ c
  · go_enter Try.func78, Try.ntmps78
    go_wp2
    all_goals (go_ret; exact ⟨ret_bool (by simp [letB, h2]), rfl⟩)
  · go_enter Try.func78, Try.ntmps78
    go_wp2
    all_goals (go_ret; exact ⟨ret_bool (by simp [letB]; omega), rfl⟩)

theorem digit_c (c : Int) (h0 : 0 ≤ c) (h1 : c ≤ 255) (w : World) : Calls Try.prog 79 #[.int .u8 c] w fun e w' => e = .returned (.bool (digB c)) ∧ w' = w := by
  by_cases h2 : 48 ≤ c
  · go_enter Try.func79, Try.ntmps79
    go_wp2
    all_goals (go_ret; exact ⟨ret_bool (by simp [digB, h2]), rfl⟩)
  · go_enter Try.func79, Try.ntmps79
    go_wp2
    all_goals (go_ret; exact ⟨ret_bool (by simp [digB]; omega), rfl⟩)

def okC (c : Int) : Prop := letB c = true ∨ digB c = true ∨ c = 95

open Classical in
noncomputable def nameB (s : ByteArray) : Bool := decide (∃ h : 0 < s.size, s.size ≤ 16 ∧ letB (s[0].toNat : Int) = true ∧ ∀ i (h : i < s.size), okC (s[i].toNat : Int))

theorem u8_lt (c : UInt8) : (c.toNat : Int) ≤ 255 := by have := c.toNat_lt; omega

set_option maxHeartbeats 1000000 in
theorem name_c (s : ByteArray) (hs : s.size ≤ maxLen) (w : World) : Calls Try.prog 19 #[.string s] w fun e w' => e = .returned (.bool (nameB s)) ∧ w' = w := by
  unfold maxLen at hs
  by_cases h0 : s.size = 0
  · have hf : nameB s = false := by unfold nameB; rw [decide_eq_false_iff_not]; rintro ⟨h, _⟩; omega
    rw [hf]
    go_enter Try.func19, Try.ntmps19
    go_wp2
    go_ret
    exact ⟨rfl, rfl⟩
  · by_cases h1 : s.size ≤ 16
    · have h00 : 0 < s.size := by omega
      cases h2 : letB (s[0].toNat : Int) with
      | false =>
        have hf : nameB s = false := by unfold nameB; rw [decide_eq_false_iff_not]; rintro ⟨h, _, h3, _⟩; rw [h2] at h3; cases h3
        rw [hf]
        go_enter Try.func19, Try.ntmps19
        go_wp2_with (first | (go_at_call 78; refine (letter_c _ (by omega) (u8_lt _) _).mono ?_; rintro e w1 ⟨rfl, hw⟩; have hw1 := hw.symm; clear hw; subst hw1))
        go_ret
        exact ⟨rfl, rfl⟩
      | true =>
        have hz : ((s.size : Int) == 0) = false := by simpa using h0
        have hz2 : decide ((16 : Int) < s.size) = false := by simp; omega
        go_enter Try.func19, Try.ntmps19
        go_wp2_with (first | (go_at_call 78; refine (letter_c _ (by omega) (u8_lt _) _).mono ?_; rintro e w1 ⟨rfl, hw⟩; have hw1 := hw.symm; clear hw; subst hw1))
        · go_loop [20] (fun i => ∃ k : Nat, k ≤ s.size ∧ i = .int .i64 k ∧ ∀ j (h : j < s.size), j < k → okC (s[j].toNat : Int)) (fun i => s.size - (intOf i).toNat)
          case atStart => exact ⟨0, Nat.zero_le _, rfl, fun j _ h => absurd h (Nat.not_lt_zero j)⟩
          case round =>
            obtain ⟨k, hk, rfl, hall⟩ := hrel
            by_cases hlt : k < s.size
            · have next : okC (s[k].toNat : Int) → ∀ j (h : j < s.size), j < k + 1 → okC (s[j].toNat : Int) := fun hc j h hj => by
                rcases Nat.lt_or_ge j k with h5 | h5
                · exact hall j h h5
                · have : j = k := by omega
                  subst this; exact hc
              cases h5 : letB (s[k].toNat : Int) with
              | true =>
                have hnx := next (.inl h5)
                clear next
                go_wp2_with (first | (go_at_call 78; refine (letter_c _ (by omega) (u8_lt _) _).mono ?_; rintro e w1 ⟨rfl, hw⟩; have hw1 := hw.symm; clear hw; subst hw1) | (go_at_call 79; refine (digit_c _ (by omega) (u8_lt _) _).mono ?_; rintro e w1 ⟨rfl, hw⟩; have hw1 := hw.symm; clear hw; subst hw1))
                refine ⟨⟨k + 1, by omega, by go_num, hnx⟩, ?_⟩
                simp [intOf]; omega
              | false =>
                cases h6 : digB (s[k].toNat : Int) with
                | true =>
                  have hnx := next (.inr (.inl h6))
                  clear next
                  go_wp2_with (first | (go_at_call 78; refine (letter_c _ (by omega) (u8_lt _) _).mono ?_; rintro e w1 ⟨rfl, hw⟩; have hw1 := hw.symm; clear hw; subst hw1) | (go_at_call 79; refine (digit_c _ (by omega) (u8_lt _) _).mono ?_; rintro e w1 ⟨rfl, hw⟩; have hw1 := hw.symm; clear hw; subst hw1))
                  refine ⟨⟨k + 1, by omega, by go_num, hnx⟩, ?_⟩
                  simp [intOf]; omega
                | false =>
                  cases h7 : ((s[k].toNat : Int) != 95)
                  · have hnx := next (.inr (.inr (by simpa using h7)))
                    clear next
                    go_wp2_with (first | (go_at_call 78; refine (letter_c _ (by omega) (u8_lt _) _).mono ?_; rintro e w1 ⟨rfl, hw⟩; have hw1 := hw.symm; clear hw; subst hw1) | (go_at_call 79; refine (digit_c _ (by omega) (u8_lt _) _).mono ?_; rintro e w1 ⟨rfl, hw⟩; have hw1 := hw.symm; clear hw; subst hw1))
                    refine ⟨⟨k + 1, by omega, by go_num, hnx⟩, ?_⟩
                    simp [intOf]; omega
                  · clear next
                    have hf : nameB s = false := by
                      unfold nameB; rw [decide_eq_false_iff_not]
                      rintro ⟨_, _, _, h8⟩
                      rcases h8 k hlt with h9 | h9 | h9
                      · rw [h5] at h9; cases h9
                      · rw [h6] at h9; cases h9
                      · rw [h9] at h7; cases h7
                    go_wp2_with (first | (go_at_call 78; refine (letter_c _ (by omega) (u8_lt _) _).mono ?_; rintro e w1 ⟨rfl, hw⟩; have hw1 := hw.symm; clear hw; subst hw1) | (go_at_call 79; refine (digit_c _ (by omega) (u8_lt _) _).mono ?_; rintro e w1 ⟨rfl, hw⟩; have hw1 := hw.symm; clear hw; subst hw1))
                    go_ret
                    exact ⟨ret_bool hf.symm, rfl⟩
            · go_wp2
              go_ret
              have hf : nameB s = true := by unfold nameB; simp only [decide_eq_true_eq]; exact ⟨h00, h1, h2, fun i h => hall i h (by omega)⟩
              exact ⟨ret_bool hf.symm, rfl⟩
    · have hf : nameB s = false := by
        unfold nameB; rw [decide_eq_false_iff_not]; rintro ⟨h, h3, _⟩; omega
      rw [hf]
      go_enter Try.func19, Try.ntmps19
      go_wp2
      go_ret
      exact ⟨rfl, rfl⟩
end Go.Proofs.Ytgbdominbkcamaa
