/- Divisions of numbers; regular numbers; the digits of a number but for its factors of 60. -/
import Derived.Test.YtbldcoaenhplcaaDoorVD
set_option linter.unusedSimpArgs false
set_option linter.unusedVariables false
/- Lists of digits, the least significant one first. -/
namespace Go.Proofs.YtbldcoaenhplcaaDoor
open Go.Ev
/-- the number of digits, the least significant one first -/
def leN : List Int → Nat
  | [] => 0
  | d :: t => d.toNat + 60 * leN t
theorem leN_app : ∀ (l m : List Int), leN (l ++ m) = leN l + 60 ^ l.length * leN m
  | [], m => by simp [leN]
  | d :: t, m => by
    rw [List.cons_append, leN, leN_app t m, leN, List.length_cons, Nat.pow_succ, Nat.mul_add, ← Nat.mul_assoc, Nat.mul_comm 60, Nat.mul_comm (60 ^ t.length) 60, Nat.add_assoc]
theorem leN_zeros : ∀ n, leN (List.replicate n 0) = 0
  | 0 => rfl
  | n + 1 => by rw [List.replicate_succ, leN, leN_zeros n]; rfl
theorem leN_snoc0 (l : List Int) : leN (l ++ [0]) = leN l := by rw [leN_app]; simp [leN]
theorem leN_set : ∀ {l : List Int} {k : Nat} (hk : k < l.length) (v : Int), leN (l.set k v) + (l[k]).toNat * 60 ^ k = leN l + v.toNat * 60 ^ k
  | d :: t, 0, _, v => by simp [leN]; omega
  | d :: t, k + 1, hk, v => by
    have := leN_set (l := t) (k := k) (by simpa using hk) v
    simp only [List.set_cons_succ, leN, List.getElem_cons_succ, Nat.pow_succ]
    rw [← Nat.mul_assoc, ← Nat.mul_assoc]
    omega
theorem leN_take {l : List Int} {i : Nat} (hi : i < l.length) : leN (l.take (i + 1)) = leN (l.take i) + (l[i]).toNat * 60 ^ i := by
  rw [List.take_succ_eq_append_getElem hi, leN_app, List.length_take, Nat.min_eq_left (Nat.le_of_lt hi)]
  simp [leN, Nat.mul_comm]
theorem leN_lt : ∀ {l : List Int}, digs l → leN l < 60 ^ l.length
  | [], _ => by decide
  | d :: t, h => by
    have h1 := h d (.head _)
    have h2 := leN_lt fun x hx => h x (.tail _ hx)
    rw [List.length_cons, Nat.pow_succ, leN]
    omega
theorem leN_dig : ∀ {l : List Int}, digs l → ∀ i, leN l / 60 ^ i % 60 = (l[i]?.getD 0).toNat
  | [], _, i => by simp [leN]
  | d :: t, h, 0 => by
    have h1 := h d (.head _)
    simp [leN]
    omega
  | d :: t, h, i + 1 => by
    have h1 := h d (.head _)
    have h2 := leN_dig (l := t) (fun x hx => h x (.tail _ hx)) i
    rw [leN, show i + 1 = 1 + i by omega, Nat.pow_add, Nat.pow_one, ← Nat.div_div_eq_div_mul]
    have : (d.toNat + 60 * leN t) / 60 = leN t := by omega
    rw [this, h2, Nat.add_comm 1 i]
    simp
theorem usL_leN {X : Nat} : ∀ {k : Nat}, k ≤ 146 → leN (usL X k) = X % 60 ^ k
  | 0, _ => by simp [usL, leN, Nat.mod_one]
  | k + 1, hk => by
    have ih := usL_leN (X := X) (k := k) (by omega)
    have hl := usL_len (X := X) hk
    have e : usL X k = (usL X (k + 1)).take k := by
      unfold usL
      rw [List.take_take]; congr 1; omega
    have h1 := leN_take (l := usL X (k + 1)) (i := k) (by omega)
    rw [List.take_of_length_le (by omega), ← e, ih, usL_get] at h1
    rw [h1, Nat.pow_succ, Nat.mod_mul, Int.toNat_natCast, Nat.mul_comm (60 ^ k)]
theorem numD_leN {l : List Int} (h : digs l) (hl : l.length ≤ 146) : numD (leN l) = l ++ List.replicate (146 - l.length) 0 := by
  apply List.ext_getElem
  · rw [numD_len, List.length_append, List.length_replicate]; omega
  · intro j h1 h2
    rw [numD_get, leN_dig h j]
    by_cases hj : j < l.length
    · rw [List.getElem_append_left hj, List.getElem?_eq_getElem hj]
      have := h _ (List.getElem_mem hj)
      simp
      omega
    · rw [List.getElem_append_right (by omega), List.getElem_replicate, List.getElem?_eq_none (by omega)]
      rfl

theorem usL_eq {X k : Nat} (hk : k ≤ 146) (hX : X < 60 ^ k) : leN (usL X k) = X := by rw [usL_leN hk, Nat.mod_eq_of_lt hX]
theorem usL_digs {X k : Nat} (hk : k ≤ 146) : digs (usL X k) := by
  intro x hx
  obtain ⟨i, hi, rfl⟩ := List.getElem_of_mem hx
  rw [usL_get]
  have : X / 60 ^ i % 60 < 60 := Nat.mod_lt _ (by decide)
  omega
theorem digs_set {l : List Int} (h : digs l) (k : Nat) {v : Int} (hv : 0 ≤ v ∧ v < 60) : digs (l.set k v) := fun x hx => by
  rcases List.mem_or_eq_of_mem_set hx with h1 | h1
  · exact h x h1
  · rw [h1]; exact hv
theorem digs_snoc {l : List Int} (h : digs l) {v : Int} (hv : 0 ≤ v ∧ v < 60) : digs (l ++ [v]) := fun x hx => by
  rcases List.mem_append.1 hx with h1 | h1
  · exact h x h1
  · rw [List.mem_singleton.1 h1]; exact hv
/-- one digit is added: what is carried goes on -/
theorem add_step {L : List Int} {k c : Nat} (hk : k < L.length) (hL : digs L) : leN (L.set k (((c + (L[k]).toNat) % 60 : Nat) : Int)) + (c + (L[k]).toNat) / 60 * 60 ^ (k + 1) = leN L + c * 60 ^ k := by
  have h1 := leN_set hk (((c + (L[k]).toNat) % 60 : Nat) : Int)
  rw [Int.toNat_natCast] at h1
  have h2 := Nat.mod_add_div (c + (L[k]).toNat) 60
  generalize leN (L.set k _) = A at *
  generalize (L[k]).toNat = d at *
  generalize (c + d) % 60 = r at *
  generalize (c + d) / 60 = q at *
  rw [Nat.pow_succ]
  generalize 60 ^ k = P at *
  have h3 : (r + 60 * q) * P = (c + d) * P := by rw [h2]
  grind
end Go.Proofs.YtbldcoaenhplcaaDoor
namespace Go.Proofs.YtbldcoaenhplcaaDoor
open Go.Ev
theorem pow_split_le {m n e k : Nat} (hm : m % 60 ≠ 0) (h : m * 60 ^ e = n * 60 ^ (e + k)) : m = n ∧ k = 0 := by
  have hp : 0 < 60 ^ e := Nat.pow_pos (by decide)
  rw [Nat.pow_add, Nat.mul_comm (60 ^ e), ← Nat.mul_assoc] at h
  have h2 := Nat.eq_of_mul_eq_mul_right hp h
  rcases Nat.eq_zero_or_pos k with q | q
  · subst q; simpa using h2
  · exfalso
    obtain ⟨y, rfl⟩ : ∃ y, k = y + 1 := ⟨k - 1, by omega⟩
    apply hm
    rw [h2, Nat.pow_succ, ← Nat.mul_assoc, Nat.mul_mod_left]
theorem pow_split {m n e f : Nat} (hm : m % 60 ≠ 0) (hn : n % 60 ≠ 0) (h : m * 60 ^ e = n * 60 ^ f) : m = n ∧ e = f := by
  rcases Nat.le_total e f with q | q
  · obtain ⟨k, rfl⟩ := Nat.exists_eq_add_of_le q
    obtain ⟨a, b⟩ := pow_split_le hm h
    exact ⟨a, by omega⟩
  · obtain ⟨k, rfl⟩ := Nat.exists_eq_add_of_le q
    obtain ⟨a, b⟩ := pow_split_le hn h.symm
    exact ⟨a.symm, by omega⟩
theorem shift_get {W j i : Nat} : W * 60 ^ j / 60 ^ i % 60 = if i < j then 0 else W / 60 ^ (i - j) % 60 := by
  by_cases h : i < j
  · rw [if_pos h]
    have e : 60 ^ j = 60 ^ (j - i - 1) * 60 * 60 ^ i := by rw [← Nat.pow_succ, ← Nat.pow_add]; congr 1; omega
    have hp : 0 < 60 ^ i := Nat.pow_pos (by decide)
    rw [e, ← Nat.mul_assoc, Nat.mul_div_cancel _ hp, ← Nat.mul_assoc, Nat.mul_mod_left]
  · rw [if_neg h]
    have e : 60 ^ i = 60 ^ j * 60 ^ (i - j) := by rw [← Nat.pow_add]; congr 1; omega
    have hp : 0 < 60 ^ j := Nat.pow_pos (by decide)
    rw [e, ← Nat.div_div_eq_div_mul, Nat.mul_div_cancel _ hp]
/-- a step of a division -/
theorem div_step (Y d n : Nat) (hn : 0 < n) (hd : d < 60) : ((Y % n) * 60 + d) / n = (Y * 60 + d) / n % 60 ∧ ((Y % n) * 60 + d) % n = (Y * 60 + d) % n ∧ (Y * 60 + d) / n = Y / n * 60 + (Y * 60 + d) / n % 60 := by
  have h1 := Nat.div_add_mod Y n
  have h2 := Nat.mod_lt Y hn
  generalize Y / n = q at *
  generalize Y % n = r at *
  subst h1
  have e : (n * q + r) * 60 + d = (r * 60 + d) + n * (q * 60) := by grind
  rw [e, Nat.add_mul_div_left _ _ hn, Nat.add_mul_mod_self_left]
  have h3 : (r * 60 + d) / n < 60 := by
    rw [Nat.div_lt_iff_lt_mul hn]
    have : (r + 1) * 60 ≤ n * 60 := Nat.mul_le_mul_right _ h2
    omega
  generalize (r * 60 + d) / n = z at *
  refine ⟨by omega, rfl, by omega⟩
theorem dvd_two {a p q s : Nat} (h : 2 ^ a ∣ 2 ^ p * 3 ^ q * 5 ^ s) : a ≤ p := by
  have c3 : Nat.Coprime (2 ^ a) (3 ^ q) := Nat.Coprime.pow _ _ (by decide)
  have c5 : Nat.Coprime (2 ^ a) (5 ^ s) := Nat.Coprime.pow _ _ (by decide)
  have h1 := c3.dvd_of_dvd_mul_right (c5.dvd_of_dvd_mul_right h)
  exact (Nat.pow_dvd_pow_iff_le_right (by decide)).1 h1
theorem dvd_three {a p q s : Nat} (h : 3 ^ a ∣ 2 ^ p * 3 ^ q * 5 ^ s) : a ≤ q := by
  have c2 : Nat.Coprime (3 ^ a) (2 ^ p) := Nat.Coprime.pow _ _ (by decide)
  have c5 : Nat.Coprime (3 ^ a) (5 ^ s) := Nat.Coprime.pow _ _ (by decide)
  have h1 := c2.dvd_of_dvd_mul_left (c5.dvd_of_dvd_mul_right h)
  exact (Nat.pow_dvd_pow_iff_le_right (by decide)).1 h1
theorem dvd_five {a p q s : Nat} (h : 5 ^ a ∣ 2 ^ p * 3 ^ q * 5 ^ s) : a ≤ s := by
  have c2 : Nat.Coprime (5 ^ a) (2 ^ p) := Nat.Coprime.pow _ _ (by decide)
  have c3 : Nat.Coprime (5 ^ a) (3 ^ q) := Nat.Coprime.pow _ _ (by decide)
  have h1 := (c2.mul_right c3).dvd_of_dvd_mul_left h
  exact (Nat.pow_dvd_pow_iff_le_right (by decide)).1 h1
theorem reg_mul (a b c p q r : Nat) : 2 ^ a * 3 ^ b * 5 ^ c * (2 ^ p * 3 ^ q * 5 ^ r) = 2 ^ (a + p) * 3 ^ (b + q) * 5 ^ (c + r) := by
  rw [Nat.pow_add, Nat.pow_add, Nat.pow_add]
  generalize 2 ^ a = A; generalize 2 ^ p = A'; generalize 3 ^ b = B; generalize 3 ^ q = B'; generalize 5 ^ c = C; generalize 5 ^ r = C'
  grind
theorem pow60 (E : Nat) : 60 ^ E = 2 ^ (2 * E) * 3 ^ E * 5 ^ E := by
  rw [Nat.pow_mul, ← Nat.mul_pow, ← Nat.mul_pow]
/-- the digits of a number, but for its factors of 60 -/
def nf (X : Nat) (d : List Int) : Prop := valid d ∧ (d = [] ↔ X = 0) ∧ ∃ e, valN d * 60 ^ e = X
theorem pow60_pos (e : Nat) : 0 < 60 ^ e := Nat.pow_pos (by decide)
theorem nf_uniq {X Y i j : Nat} {d d' : List Int} (h : nf X d) (h' : nf Y d') (e : X * 60 ^ i = Y * 60 ^ j) : d = d' := by
  obtain ⟨v, z, e1, q1⟩ := h
  obtain ⟨v', z', e2, q2⟩ := h'
  by_cases hd : d = []
  · have hX := z.1 hd
    rw [hX, Nat.zero_mul] at e
    have hY : Y = 0 := by
      rcases Nat.mul_eq_zero.1 e.symm with q | q
      · exact q
      · have := pow60_pos j; omega
    rw [hd, z'.2 hY]
  · by_cases hd' : d' = []
    · have hY := z'.1 hd'
      rw [hY, Nat.zero_mul] at e
      have hX : X = 0 := by
        rcases Nat.mul_eq_zero.1 e with q | q
        · exact q
        · have := pow60_pos i; omega
      exact absurd (z.2 hX) hd
    · rw [← q1, ← q2, Nat.mul_assoc, Nat.mul_assoc, ← Nat.pow_add, ← Nat.pow_add] at e
      exact valN_inj v v' (pow_split (valN_mod v hd) (valN_mod v' hd') e).1
theorem valN_pos {l : List Int} (h : valid l) (hn : l ≠ []) : 0 < valN l := Nat.lt_of_lt_of_le (pow60_pos _) (valid_ge h hn)
theorem nf_self {l : List Int} (h : valid l) : nf (valN l) l := by
  refine ⟨h, ⟨fun e => by rw [e]; rfl, fun e => Classical.byContradiction fun hn => ?_⟩, 0, by rw [Nat.pow_zero, Nat.mul_one]⟩
  have := valN_pos h hn
  omega
theorem nf_pos {X : Nat} {d : List Int} (h : nf X d) (h0 : X ≠ 0) : d ≠ [] := fun e => h0 (h.2.1.1 e)
theorem nf_len {X K : Nat} {d : List Int} (h : nf X d) (hX : X < 60 ^ K) : d.length ≤ K := by
  by_cases hd : d = []
  · rw [hd]; exact Nat.zero_le _
  · obtain ⟨v, z, e, q⟩ := h
    have h1 := valid_ge v hd
    have h2 : valN d ≤ X := by rw [← q]; exact Nat.le_mul_of_pos_right _ (pow60_pos e)
    have h3 := (Nat.pow_lt_pow_iff_right (by decide : 1 < 60)).1 (Nat.lt_of_le_of_lt (Nat.le_trans h1 h2) hX)
    omega
theorem one_valid : valid [1] := by
  refine ⟨fun x hx => ?_, by simp, fun _ => by simp⟩
  rw [List.mem_singleton.1 hx]; omega
end Go.Proofs.YtbldcoaenhplcaaDoor
