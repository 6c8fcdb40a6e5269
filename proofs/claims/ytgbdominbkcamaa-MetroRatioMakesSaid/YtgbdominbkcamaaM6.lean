/- Contract of the reference's IsName. -/
import Derived.Test.YtgbdominbkcamaaM5
namespace Go.Proofs.Ytgbdominbkcamaa
open Go.RowKit

theorem nameB_no {s : ByteArray} {k : Nat} (hk : k < s.size) (h : ¬ okC (s[k].toNat : Int)) : nameB s = false := by
  unfold nameB; rw [decide_eq_false_iff_not]; rintro ⟨_, _, _, h8⟩; exact h (h8 k hk)
theorem nameB_first {s : ByteArray} (hk : 0 < s.size) (h : letB (s[0].toNat : Int) = false) : nameB s = false := by
  unfold nameB; rw [decide_eq_false_iff_not]; rintro ⟨_, _, h8, _⟩; rw [h] at h8; cases h8
theorem nameB_size {s : ByteArray} (h : ¬ (0 < s.size ∧ s.size ≤ 16)) : nameB s = false := by
  unfold nameB; rw [decide_eq_false_iff_not]; rintro ⟨h1, h2, _⟩; exact h ⟨h1, h2⟩
theorem nameB_yes {s : ByteArray} (h0 : 0 < s.size) (h1 : s.size ≤ 16) (h2 : letB (s[0].toNat : Int) = true) (h3 : ∀ i (h : i < s.size), okC (s[i].toNat : Int)) : nameB s = true := by
  unfold nameB; simp only [decide_eq_true_eq]; exact ⟨h0, h1, h2, h3⟩

theorem okC_let {c : Int} (h1 : 97 ≤ c) (h2 : c ≤ 122) : okC c := .inl (by simp [letB, h1, h2])
theorem okC_dig {c : Int} (h1 : 48 ≤ c) (h2 : c ≤ 57) : okC c := .inr (.inl (by simp [digB, h1, h2]))
theorem okC_us {c : Int} (h : (c != 95) = false) : okC c := .inr (.inr (by simpa using h))
theorem okC_no {c : Int} (h1 : ¬ (97 ≤ c ∧ c ≤ 122)) (h2 : ¬ (48 ≤ c ∧ c ≤ 57)) (h3 : (c != 95) = true) : ¬ okC c := by
  rintro (h | h | h)
  · simp [letB] at h; omega
  · simp [digB] at h; omega
  · rw [h] at h3; cases h3

set_option maxHeartbeats 2000000 in
theorem rname_c (s : ByteArray) (hs : s.size ≤ maxLen) (w : World) : Calls Try.prog 20 #[.string s] w fun e w' => e = .returned (.bool (nameB s)) ∧ w' = w := by
  unfold maxLen at hs
  by_cases h0 : s.size = 0
  · rw [nameB_size (s := s) (by omega)]
    go_enter Try.func20, Try.ntmps20
    go_wp2
    go_ret
    exact ⟨rfl, rfl⟩
  · by_cases h1 : s.size ≤ 16
    · have h00 : 0 < s.size := by omega
      have hz : ((s.size : Int) == 0) = false := by simpa using h0
      have hz1 : decide ((s.size : Int) < 1) = false := by simp; omega
      have hz2 : decide ((16 : Int) < s.size) = false := by simp; omega
      by_cases p1 : (97 : Int) ≤ (s[0].toNat : Int)
      · by_cases p2 : (s[0].toNat : Int) ≤ (122 : Int)
        · have hl : letB (s[0].toNat : Int) = true := by simp [letB, p1, p2]
          have p1' : decide ((s[0].toNat : Int) < 97) = false := by simp; omega
          have p2' : decide ((122 : Int) < (s[0].toNat : Int)) = false := by simp; omega
          go_enter Try.func20, Try.ntmps20
          go_wp2
          go_loop [3] (fun i => ∃ k : Nat, k ≤ s.size ∧ i = .int .i64 k ∧ ∀ j (h : j < s.size), j < k → okC (s[j].toNat : Int)) (fun i => s.size - (intOf i).toNat)
          case atStart => exact ⟨0, Nat.zero_le _, rfl, fun j _ h => absurd h (Nat.not_lt_zero j)⟩
          case round =>
            obtain ⟨k, hk, rfl, hall⟩ := hrel
            by_cases hlt : k < s.size
            · have next : okC (s[k].toNat : Int) → ∀ j (h : j < s.size), j < k + 1 → okC (s[j].toNat : Int) := fun hc j h hj => by
                rcases Nat.lt_or_ge j k with h5 | h5
                · exact hall j h h5
                · have : j = k := by omega
                  subst this; exact hc
              by_cases q1 : (97 : Int) ≤ (s[k].toNat : Int)
              · by_cases q2 : (s[k].toNat : Int) ≤ (122 : Int)
                · have hnx := next (okC_let q1 q2)
                  clear next
                  go_wp2
                  refine ⟨⟨k + 1, by omega, by go_num, hnx⟩, ?_⟩
                  simp [intOf]; omega
                · have q5 : ((s[k].toNat : Int) != 95) = true := by simp; omega
                  have q4 : decide ((s[k].toNat : Int) ≤ (57 : Int)) = false := by simp; omega
                  have q3 : decide ((48 : Int) ≤ (s[k].toNat : Int)) = true := by simp; omega
                  have hf := nameB_no hlt (okC_no (by omega) (by omega) q5)
                  clear next
                  go_wp2
                  go_ret
                  exact ⟨ret_bool (by first | rfl | exact hf.symm), rfl⟩
              · by_cases q3 : (48 : Int) ≤ (s[k].toNat : Int)
                · by_cases q4 : (s[k].toNat : Int) ≤ (57 : Int)
                  · have hnx := next (okC_dig q3 q4)
                    clear next
                    go_wp2
                    refine ⟨⟨k + 1, by omega, by go_num, hnx⟩, ?_⟩
                    simp [intOf]; omega
                  · cases q5 : ((s[k].toNat : Int) != 95)
                    · have hnx := next (okC_us q5)
                      clear next
                      go_wp2
                      refine ⟨⟨k + 1, by omega, by go_num, hnx⟩, ?_⟩
                      simp [intOf]; omega
                    · have hf := nameB_no hlt (okC_no (by omega) (by omega) q5)
                      clear next
                      go_wp2
                      go_ret
                      exact ⟨ret_bool (by first | rfl | exact hf.symm), rfl⟩
                · have q5 : ((s[k].toNat : Int) != 95) = true := by simp; omega
                  have hf := nameB_no hlt (okC_no (by omega) (by omega) q5)
                  clear next
                  go_wp2
                  go_ret
                  exact ⟨ret_bool (by first | rfl | exact hf.symm), rfl⟩
            · go_wp2
              go_ret
              exact ⟨ret_bool (nameB_yes h00 h1 hl fun i h => hall i h (by omega)).symm, rfl⟩
        · rw [nameB_first h00 (by simp [letB]; omega)]
          go_enter Try.func20, Try.ntmps20
          go_wp2
          go_ret
          exact ⟨rfl, rfl⟩
      · rw [nameB_first h00 (by simp [letB]; omega)]
        go_enter Try.func20, Try.ntmps20
        go_wp2
        go_ret
        exact ⟨rfl, rfl⟩
    · rw [nameB_size (s := s) (by omega)]
      go_enter Try.func20, Try.ntmps20
      go_wp2
      go_ret
      exact ⟨rfl, rfl⟩
end Go.Proofs.Ytgbdominbkcamaa
