/- Contracts: held, multiply of bytes, times; cmp.Or. -/
import Derived.Test.YtelepfablohdmaaGreatDoorVC
import Derived.Test.YtelepfablohdmaaGreatDoorVB
set_option linter.unusedSimpArgs false
set_option linter.unusedVariables false
/- Lists of digits, the least significant one first. -/
namespace Go.Proofs.YtelepfablohdmaaGreatDoor
open Go.Ev
/-- the number of digits, the least significant one first -/
def leN : List Int → Nat
  | [] => 0
  | d :: t => d.toNat + 60 * leN t
theorem leN_app : ∀ (l m : List Int), leN (l ++ m) = leN l + 60 ^ l.length * leN m
  | [], m => by simp [leN]
  | d :: t, m => by
    rw [List.cons_append, leN, leN_app t m, leN, List.length_cons, Nat.pow_succ, Nat.mul_add, ← Nat.mul_assoc, Nat.mul_comm 60, Nat.mul_comm (60 ^ t.length) 60, Nat.add_assoc]
theorem leN_zeros : ∀ n, leN (List.replicate n 0) = 0
  | 0 => rfl
  | n + 1 => by rw [List.replicate_succ, leN, leN_zeros n]; rfl
theorem leN_snoc0 (l : List Int) : leN (l ++ [0]) = leN l := by rw [leN_app]; simp [leN]
theorem leN_set : ∀ {l : List Int} {k : Nat} (hk : k < l.length) (v : Int), leN (l.set k v) + (l[k]).toNat * 60 ^ k = leN l + v.toNat * 60 ^ k
  | d :: t, 0, _, v => by simp [leN]; omega
  | d :: t, k + 1, hk, v => by
    have := leN_set (l := t) (k := k) (by simpa using hk) v
    simp only [List.set_cons_succ, leN, List.getElem_cons_succ, Nat.pow_succ]
    rw [← Nat.mul_assoc, ← Nat.mul_assoc]
    omega
theorem leN_take {l : List Int} {i : Nat} (hi : i < l.length) : leN (l.take (i + 1)) = leN (l.take i) + (l[i]).toNat * 60 ^ i := by
  rw [List.take_succ_eq_append_getElem hi, leN_app, List.length_take, Nat.min_eq_left (Nat.le_of_lt hi)]
  simp [leN, Nat.mul_comm]
theorem leN_lt : ∀ {l : List Int}, digs l → leN l < 60 ^ l.length
  | [], _ => by decide
  | d :: t, h => by
    have h1 := h d (.head _)
    have h2 := leN_lt fun x hx => h x (.tail _ hx)
    rw [List.length_cons, Nat.pow_succ, leN]
    omega
theorem leN_dig : ∀ {l : List Int}, digs l → ∀ i, leN l / 60 ^ i % 60 = (l[i]?.getD 0).toNat
  | [], _, i => by simp [leN]
  | d :: t, h, 0 => by
    have h1 := h d (.head _)
    simp [leN]
    omega
  | d :: t, h, i + 1 => by
    have h1 := h d (.head _)
    have h2 := leN_dig (l := t) (fun x hx => h x (.tail _ hx)) i
    rw [leN, show i + 1 = 1 + i by omega, Nat.pow_add, Nat.pow_one, ← Nat.div_div_eq_div_mul]
    have : (d.toNat + 60 * leN t) / 60 = leN t := by omega
    rw [this, h2, Nat.add_comm 1 i]
    simp
theorem usL_leN {X : Nat} : ∀ {k : Nat}, k ≤ 146 → leN (usL X k) = X % 60 ^ k
  | 0, _ => by simp [usL, leN, Nat.mod_one]
  | k + 1, hk => by
    have ih := usL_leN (X := X) (k := k) (by omega)
    have hl := usL_len (X := X) hk
    have e : usL X k = (usL X (k + 1)).take k := by
      unfold usL
      rw [List.take_take]; congr 1; omega
    have h1 := leN_take (l := usL X (k + 1)) (i := k) (by omega)
    rw [List.take_of_length_le (by omega), ← e, ih, usL_get] at h1
    rw [h1, Nat.pow_succ, Nat.mod_mul, Int.toNat_natCast, Nat.mul_comm (60 ^ k)]
theorem numD_leN {l : List Int} (h : digs l) (hl : l.length ≤ 146) : numD (leN l) = l ++ List.replicate (146 - l.length) 0 := by
  apply List.ext_getElem
  · rw [numD_len, List.length_append, List.length_replicate]; omega
  · intro j h1 h2
    rw [numD_get, leN_dig h j]
    by_cases hj : j < l.length
    · rw [List.getElem_append_left hj, List.getElem?_eq_getElem hj]
      have := h _ (List.getElem_mem hj)
      simp
      omega
    · rw [List.getElem_append_right (by omega), List.getElem_replicate, List.getElem?_eq_none (by omega)]
      rfl

theorem usL_eq {X k : Nat} (hk : k ≤ 146) (hX : X < 60 ^ k) : leN (usL X k) = X := by rw [usL_leN hk, Nat.mod_eq_of_lt hX]
theorem usL_digs {X k : Nat} (hk : k ≤ 146) : digs (usL X k) := by
  intro x hx
  obtain ⟨i, hi, rfl⟩ := List.getElem_of_mem hx
  rw [usL_get]
  have : X / 60 ^ i % 60 < 60 := Nat.mod_lt _ (by decide)
  omega
theorem digs_set {l : List Int} (h : digs l) (k : Nat) {v : Int} (hv : 0 ≤ v ∧ v < 60) : digs (l.set k v) := fun x hx => by
  rcases List.mem_or_eq_of_mem_set hx with h1 | h1
  · exact h x h1
  · rw [h1]; exact hv
theorem digs_snoc {l : List Int} (h : digs l) {v : Int} (hv : 0 ≤ v ∧ v < 60) : digs (l ++ [v]) := fun x hx => by
  rcases List.mem_append.1 hx with h1 | h1
  · exact h x h1
  · rw [List.mem_singleton.1 h1]; exact hv
/-- one digit is added: what is carried goes on -/
theorem add_step {L : List Int} {k c : Nat} (hk : k < L.length) (hL : digs L) : leN (L.set k (((c + (L[k]).toNat) % 60 : Nat) : Int)) + (c + (L[k]).toNat) / 60 * 60 ^ (k + 1) = leN L + c * 60 ^ k := by
  have h1 := leN_set hk (((c + (L[k]).toNat) % 60 : Nat) : Int)
  rw [Int.toNat_natCast] at h1
  have h2 := Nat.mod_add_div (c + (L[k]).toNat) 60
  generalize leN (L.set k _) = A at *
  generalize (L[k]).toNat = d at *
  generalize (c + d) % 60 = r at *
  generalize (c + d) / 60 = q at *
  rw [Nat.pow_succ]
  generalize 60 ^ k = P at *
  have h3 : (r + 60 * q) * P = (c + d) * P := by rw [h2]
  grind
end Go.Proofs.YtelepfablohdmaaGreatDoor
/- Divisions of numbers; regular numbers; the digits of a number but for its factors of 60. -/
namespace Go.Proofs.YtelepfablohdmaaGreatDoor
open Go.Ev
theorem pow_split_le {m n e k : Nat} (hm : m % 60 ≠ 0) (h : m * 60 ^ e = n * 60 ^ (e + k)) : m = n ∧ k = 0 := by
  have hp : 0 < 60 ^ e := Nat.pow_pos (by decide)
  rw [Nat.pow_add, Nat.mul_comm (60 ^ e), ← Nat.mul_assoc] at h
  have h2 := Nat.eq_of_mul_eq_mul_right hp h
  rcases Nat.eq_zero_or_pos k with q | q
  · subst q; simpa using h2
  · exfalso
    obtain ⟨y, rfl⟩ : ∃ y, k = y + 1 := ⟨k - 1, by omega⟩
    apply hm
    rw [h2, Nat.pow_succ, ← Nat.mul_assoc, Nat.mul_mod_left]
theorem pow_split {m n e f : Nat} (hm : m % 60 ≠ 0) (hn : n % 60 ≠ 0) (h : m * 60 ^ e = n * 60 ^ f) : m = n ∧ e = f := by
  rcases Nat.le_total e f with q | q
  · obtain ⟨k, rfl⟩ := Nat.exists_eq_add_of_le q
    obtain ⟨a, b⟩ := pow_split_le hm h
    exact ⟨a, by omega⟩
  · obtain ⟨k, rfl⟩ := Nat.exists_eq_add_of_le q
    obtain ⟨a, b⟩ := pow_split_le hn h.symm
    exact ⟨a.symm, by omega⟩
theorem shift_get {W j i : Nat} : W * 60 ^ j / 60 ^ i % 60 = if i < j then 0 else W / 60 ^ (i - j) % 60 := by
  by_cases h : i < j
  · rw [if_pos h]
    have e : 60 ^ j = 60 ^ (j - i - 1) * 60 * 60 ^ i := by rw [← Nat.pow_succ, ← Nat.pow_add]; congr 1; omega
    have hp : 0 < 60 ^ i := Nat.pow_pos (by decide)
    rw [e, ← Nat.mul_assoc, Nat.mul_div_cancel _ hp, ← Nat.mul_assoc, Nat.mul_mod_left]
  · rw [if_neg h]
    have e : 60 ^ i = 60 ^ j * 60 ^ (i - j) := by rw [← Nat.pow_add]; congr 1; omega
    have hp : 0 < 60 ^ j := Nat.pow_pos (by decide)
    rw [e, ← Nat.div_div_eq_div_mul, Nat.mul_div_cancel _ hp]
/-- a step of a division -/
theorem div_step (Y d n : Nat) (hn : 0 < n) (hd : d < 60) : ((Y % n) * 60 + d) / n = (Y * 60 + d) / n % 60 ∧ ((Y % n) * 60 + d) % n = (Y * 60 + d) % n ∧ (Y * 60 + d) / n = Y / n * 60 + (Y * 60 + d) / n % 60 := by
  have h1 := Nat.div_add_mod Y n
  have h2 := Nat.mod_lt Y hn
  generalize Y / n = q at *
  generalize Y % n = r at *
  subst h1
  have e : (n * q + r) * 60 + d = (r * 60 + d) + n * (q * 60) := by grind
  rw [e, Nat.add_mul_div_left _ _ hn, Nat.add_mul_mod_self_left]
  have h3 : (r * 60 + d) / n < 60 := by
    rw [Nat.div_lt_iff_lt_mul hn]
    have : (r + 1) * 60 ≤ n * 60 := Nat.mul_le_mul_right _ h2
    omega
  generalize (r * 60 + d) / n = z at *
  refine ⟨by omega, rfl, by omega⟩
theorem cop2 {r : Nat} (h : r % 2 ≠ 0) : Nat.Coprime r 2 := by
  have h1 : Nat.gcd r 2 ∣ 2 := Nat.gcd_dvd_right _ _
  have h2 : Nat.gcd r 2 ∣ r := Nat.gcd_dvd_left _ _
  have h3 := Nat.le_of_dvd (by decide) h1
  have : Nat.gcd r 2 = 0 ∨ Nat.gcd r 2 = 1 ∨ Nat.gcd r 2 = 2 := by omega
  rcases this with e | e | e
  · rw [e] at h1; have := Nat.eq_zero_of_zero_dvd h1; omega
  · exact e
  · rw [e] at h2; omega
theorem cop3 {r : Nat} (h : r % 3 ≠ 0) : Nat.Coprime r 3 := by
  have h1 : Nat.gcd r 3 ∣ 3 := Nat.gcd_dvd_right _ _
  have h2 : Nat.gcd r 3 ∣ r := Nat.gcd_dvd_left _ _
  have h3 := Nat.le_of_dvd (by decide) h1
  have : Nat.gcd r 3 = 0 ∨ Nat.gcd r 3 = 1 ∨ Nat.gcd r 3 = 2 ∨ Nat.gcd r 3 = 3 := by omega
  rcases this with e | e | e | e
  · rw [e] at h1; have := Nat.eq_zero_of_zero_dvd h1; omega
  · exact e
  · rw [e] at h1; omega
  · rw [e] at h2; omega
theorem cop5 {r : Nat} (h : r % 5 ≠ 0) : Nat.Coprime r 5 := by
  have h1 : Nat.gcd r 5 ∣ 5 := Nat.gcd_dvd_right _ _
  have h2 : Nat.gcd r 5 ∣ r := Nat.gcd_dvd_left _ _
  have h3 := Nat.le_of_dvd (by decide) h1
  have : Nat.gcd r 5 = 0 ∨ Nat.gcd r 5 = 1 ∨ Nat.gcd r 5 = 2 ∨ Nat.gcd r 5 = 3 ∨ Nat.gcd r 5 = 4 ∨ Nat.gcd r 5 = 5 := by omega
  rcases this with e | e | e | e | e | e
  · rw [e] at h1; have := Nat.eq_zero_of_zero_dvd h1; omega
  · exact e
  · rw [e] at h1; omega
  · rw [e] at h1; omega
  · rw [e] at h1; omega
  · rw [e] at h2; omega
/-- what no prime of the base divides, and what divides a regular number, is 1 -/
theorem only_one {r p q s : Nat} (h2 : r % 2 ≠ 0) (h3 : r % 3 ≠ 0) (h5 : r % 5 ≠ 0) (h : r ∣ 2 ^ p * 3 ^ q * 5 ^ s) : r = 1 := by
  have c2 := (cop2 h2).pow_right p
  have c3 := (cop3 h3).pow_right q
  have c5 := (cop5 h5).pow_right s
  have := (c2.mul_right c3).mul_right c5
  exact this.eq_one_of_dvd h
theorem dvd_two {a p q s : Nat} (h : 2 ^ a ∣ 2 ^ p * 3 ^ q * 5 ^ s) : a ≤ p := by
  have c3 : Nat.Coprime (2 ^ a) (3 ^ q) := Nat.Coprime.pow _ _ (by decide)
  have c5 : Nat.Coprime (2 ^ a) (5 ^ s) := Nat.Coprime.pow _ _ (by decide)
  have h1 := c3.dvd_of_dvd_mul_right (c5.dvd_of_dvd_mul_right h)
  exact (Nat.pow_dvd_pow_iff_le_right (by decide)).1 h1
theorem dvd_three {a p q s : Nat} (h : 3 ^ a ∣ 2 ^ p * 3 ^ q * 5 ^ s) : a ≤ q := by
  have c2 : Nat.Coprime (3 ^ a) (2 ^ p) := Nat.Coprime.pow _ _ (by decide)
  have c5 : Nat.Coprime (3 ^ a) (5 ^ s) := Nat.Coprime.pow _ _ (by decide)
  have h1 := c2.dvd_of_dvd_mul_left (c5.dvd_of_dvd_mul_right h)
  exact (Nat.pow_dvd_pow_iff_le_right (by decide)).1 h1
theorem dvd_five {a p q s : Nat} (h : 5 ^ a ∣ 2 ^ p * 3 ^ q * 5 ^ s) : a ≤ s := by
  have c2 : Nat.Coprime (5 ^ a) (2 ^ p) := Nat.Coprime.pow _ _ (by decide)
  have c3 : Nat.Coprime (5 ^ a) (3 ^ q) := Nat.Coprime.pow _ _ (by decide)
  have h1 := (c2.mul_right c3).dvd_of_dvd_mul_left h
  exact (Nat.pow_dvd_pow_iff_le_right (by decide)).1 h1
theorem reg_mul (a b c p q r : Nat) : 2 ^ a * 3 ^ b * 5 ^ c * (2 ^ p * 3 ^ q * 5 ^ r) = 2 ^ (a + p) * 3 ^ (b + q) * 5 ^ (c + r) := by
  rw [Nat.pow_add, Nat.pow_add, Nat.pow_add]
  generalize 2 ^ a = A; generalize 2 ^ p = A'; generalize 3 ^ b = B; generalize 3 ^ q = B'; generalize 5 ^ c = C; generalize 5 ^ r = C'
  grind
theorem pow60 (E : Nat) : 60 ^ E = 2 ^ (2 * E) * 3 ^ E * 5 ^ E := by
  rw [Nat.pow_mul, ← Nat.mul_pow, ← Nat.mul_pow]
theorem inv_mul {a b c E : Nat} (ha : a ≤ 2 * E) (hb : b ≤ E) (hc : c ≤ E) : 2 ^ a * 3 ^ b * 5 ^ c * (2 ^ (2 * E - a) * 3 ^ (E - b) * 5 ^ (E - c)) = 60 ^ E := by
  rw [reg_mul, pow60]
  congr 3 <;> omega
/-- the digits of a number, but for its factors of 60 -/
def nf (X : Nat) (d : List Int) : Prop := valid d ∧ (d = [] ↔ X = 0) ∧ ∃ e, valN d * 60 ^ e = X
theorem pow60_pos (e : Nat) : 0 < 60 ^ e := Nat.pow_pos (by decide)
theorem nf_uniq {X Y i j : Nat} {d d' : List Int} (h : nf X d) (h' : nf Y d') (e : X * 60 ^ i = Y * 60 ^ j) : d = d' := by
  obtain ⟨v, z, e1, q1⟩ := h
  obtain ⟨v', z', e2, q2⟩ := h'
  by_cases hd : d = []
  · have hX := z.1 hd
    rw [hX, Nat.zero_mul] at e
    have hY : Y = 0 := by
      rcases Nat.mul_eq_zero.1 e.symm with q | q
      · exact q
      · have := pow60_pos j; omega
    rw [hd, z'.2 hY]
  · by_cases hd' : d' = []
    · have hY := z'.1 hd'
      rw [hY, Nat.zero_mul] at e
      have hX : X = 0 := by
        rcases Nat.mul_eq_zero.1 e with q | q
        · exact q
        · have := pow60_pos i; omega
      exact absurd (z.2 hX) hd
    · rw [← q1, ← q2, Nat.mul_assoc, Nat.mul_assoc, ← Nat.pow_add, ← Nat.pow_add] at e
      exact valN_inj v v' (pow_split (valN_mod v hd) (valN_mod v' hd') e).1
theorem valN_pos {l : List Int} (h : valid l) (hn : l ≠ []) : 0 < valN l := Nat.lt_of_lt_of_le (pow60_pos _) (valid_ge h hn)
theorem nf_self {l : List Int} (h : valid l) : nf (valN l) l := by
  refine ⟨h, ⟨fun e => by rw [e]; rfl, fun e => Classical.byContradiction fun hn => ?_⟩, 0, by rw [Nat.pow_zero, Nat.mul_one]⟩
  have := valN_pos h hn
  omega
theorem nf_pos {X : Nat} {d : List Int} (h : nf X d) (h0 : X ≠ 0) : d ≠ [] := fun e => h0 (h.2.1.1 e)
theorem nf_len {X K : Nat} {d : List Int} (h : nf X d) (hX : X < 60 ^ K) : d.length ≤ K := by
  by_cases hd : d = []
  · rw [hd]; exact Nat.zero_le _
  · obtain ⟨v, z, e, q⟩ := h
    have h1 := valid_ge v hd
    have h2 : valN d ≤ X := by rw [← q]; exact Nat.le_mul_of_pos_right _ (pow60_pos e)
    have h3 := (Nat.pow_lt_pow_iff_right (by decide : 1 < 60)).1 (Nat.lt_of_le_of_lt (Nat.le_trans h1 h2) hX)
    omega
end Go.Proofs.YtelepfablohdmaaGreatDoor
/- Contract: add, of bytes. -/
namespace Go.Proofs.YtelepfablohdmaaGreatDoor
open Go.Ev
theorem ap133 (h : AHeap) (b : Option Addr) (n c : Nat) (x : Value) : appendOp Tryz.prog h 133 133 (.slice b n c) x = appendS h 5 1 1 b n c x := by kernel_rfl
theorem bs133_1 (x : Int) : buildSliceA Tryz.prog 133 1 [(0, .int .u8 x)] = some (.cells [.int .u8 x] 5 true, fun b => .slice (some ⟨b, 0, none⟩) 1 (EX + 1)) := by kernel_rfl
attribute [push_cast] bs133_1
theorem encB_flat (x : Int) : allFlat (encB x) = true := rfl
theorem flatB : ∀ l : List Int, flatE encB l = ints .u8 l
  | [] => rfl
  | x :: l => by
    rw [flatE_cons, flatB l]
    rfl
/-- the heap of a call that may change the block of its own list -/
def Fr (L0 : List Int) (b0 : Nat) (h H : AHeap) : Prop := h.next ≤ H.next ∧ ∀ c, c < h.next → (L0 ≠ [] → c ≠ b0) → H.get c = h.get c
/-- where a list of bytes lies -/
def OwnB (L0 : List Int) (b0 base : Nat) (H : AHeap) (L : List Int) (b : Nat) : Prop := L ≠ [] → b < H.next ∧ H.get b = some (.cells (flatE encB L) 5 true) ∧ (base ≤ b ∨ (L0 ≠ [] ∧ b = b0))
set_option maxRecDepth 100000 in
set_option maxHeartbeats 8000000 in
theorem add_w {e : Nat} (L0 us : List Int) (f at' b0 : Nat) (hL0 : digs L0) (hus : digs us) (hf : f ≤ 59) (hl0 : L0.length ≤ 1000) (hlu : us.length ≤ 1000) (hat : at' ≤ 1000) (vu : Value) (h : AHeap) (hB : L0 ≠ [] → b0 < h.next ∧ h.get b0 = some (.cells (flatE encB L0) 5 true)) (hu : ∀ H, Fr L0 b0 h H → SlIn encB 1 e H vu us) :
    Wc pr (.func 130) [.slice (ownB L0 b0) L0.length L0.length, vu, .int .i64 (f : Int), .int .i64 (at' : Int)] h fun r h' => (∃ L b, r = .slice (ownB L b) L.length L.length ∧ digs L ∧ leN L = leN L0 + f * leN us * 60 ^ at' ∧ L0.length ≤ L.length ∧ L.length ≤ max L0.length (at' + us.length) + 1 ∧ OwnB L0 b0 h.next h' L b) ∧ Fr L0 b0 h h' := by
  obtain ⟨au, cu, rfl, _, _⟩ := hu h ⟨Nat.le_refl _, fun _ _ _ => rfl⟩
  refine wc_func Tryz.func130 rfl rfl rfl rfl ?_
  repeat' (first
    | ((with_reducible first | refine optP_id ?_ | refine condP_id ?_ | refine condO_id ?_ | refine resP_id ?_); conv => { arg 1; simp (disch := first | assumption | omega) only [push_cast, ↓reduceIte, reduceIte, Nat.reduceEqDiff, Nat.reduceAdd, Nat.reduceSub, Nat.reduceMul, Nat.reduceBEq, Int.reduceNeg] }; first | ((with_reducible refine optP_id ?_); refine optP_some ?_) | ((with_reducible refine condP_id ?_); first | refine qcy ?_ | refine qcx ?_ | refine qco ?_ | refine condP_decn (fun hc => ?_) (fun hc => ?_) | refine condP_dec (fun hc => ?_) (fun hc => ?_) | refine qct ?_ | refine qcf ?_ | refine condP_bool (fun hc => ?_) (fun hc => ?_)) | ((with_reducible refine condO_id ?_); refine condO_some ?_) | ((with_reducible refine resP_id ?_); refine resP_one ?_))
    | refine wk_seq ?_ | refine wk_region ?_ | refine wk_block ?_ | refine wk_inBlock ?_ | refine wk_skip ?_ | refine wo_nil ?_ | refine wk_exit ?_ | refine exitK_code ?_ | refine exitK_hit ?_ | refine exitK_miss rfl ?_ | refine exitK_inLoop ?_ | refine wk_cond ?_ | refine wk_ret ?_ | refine wk_nil ?_ | refine wo_dst rfl (opR_pick ?_) | refine wo_guard rfl rfl ?_ | refine wo_guardn rfl ?_ | refine wo_dst rfl (opR_pure ?_) | refine wo_nodst (opR_pure ?_)
    | refine give_ret ?_ | refine give_end ?_)
  generalize hM : max us.length (L0.length - at') = M
  refine wk_loop (fun n E H => ∃ (i c b : Nat) (L : List Int), n = M + 1 - i ∧ i ≤ M + 1 ∧ (i = M + 1 → c = 0) ∧ c ≤ 59 ∧ digs L ∧ L0.length ≤ L.length ∧ L.length ≤ max L0.length (at' + i) ∧ leN L + c * 60 ^ (at' + i) = leN L0 + f * leN (us.take i) * 60 ^ at' ∧ OwnB L0 b0 h.next H L b ∧ Fr L0 b0 h H ∧ E.look 0 top = .slice (ownB L b) L.length L.length ∧ E.look 1 top = .slice au us.length cu ∧ E.look 2 top = .int .i64 (f : Int) ∧ E.look 3 top = .int .i64 (at' : Int) ∧ E.look 9 top = .int .i64 (c : Int) ∧ E.look 10 top = .int .i64 (i : Int)) (M + 1)
    ⟨0, 0, b0, L0, by omega, by omega, by omega, by omega, hL0, Nat.le_refl _, by omega, by simp [leN], fun hn => ⟨(hB hn).1, (hB hn).2, .inr ⟨hn, rfl⟩⟩, ⟨Nat.le_refl _, fun _ _ _ => rfl⟩, by simp (disch := first | assumption | omega) only [push_cast, ↓reduceIte, reduceIte, Nat.reduceEqDiff, Nat.reduceAdd, Nat.reduceSub, Nat.reduceMul, Nat.reduceBEq, Int.reduceNeg], by simp (disch := first | assumption | omega) only [push_cast, ↓reduceIte, reduceIte, Nat.reduceEqDiff, Nat.reduceAdd, Nat.reduceSub, Nat.reduceMul, Nat.reduceBEq, Int.reduceNeg], by simp (disch := first | assumption | omega) only [push_cast, ↓reduceIte, reduceIte, Nat.reduceEqDiff, Nat.reduceAdd, Nat.reduceSub, Nat.reduceMul, Nat.reduceBEq, Int.reduceNeg], by simp (disch := first | assumption | omega) only [push_cast, ↓reduceIte, reduceIte, Nat.reduceEqDiff, Nat.reduceAdd, Nat.reduceSub, Nat.reduceMul, Nat.reduceBEq, Int.reduceNeg], (by simp (disch := first | assumption | omega) only [push_cast, ↓reduceIte, reduceIte, Nat.reduceEqDiff, Nat.reduceAdd, Nat.reduceSub, Nat.reduceMul, Nat.reduceBEq, Int.reduceNeg, Int.natCast_zero]), (by simp (disch := first | assumption | omega) only [push_cast, ↓reduceIte, reduceIte, Nat.reduceEqDiff, Nat.reduceAdd, Nat.reduceSub, Nat.reduceMul, Nat.reduceBEq, Int.reduceNeg, Int.natCast_zero])⟩ ?_
  rintro n E H ⟨i, c, b, L, rfl, hi, hic, hc, hL, hll, hlm, hE, hown, hfr, e0, e1, e2, e3, e9, e10⟩ next
  by_cases hgo : i < us.length ∨ 0 < c
  · obtain ⟨xf, hxf, hxe, hxn⟩ : ∃ xf : Nat, xf ≤ 3481 ∧ f * leN (us.take (i + 1)) * 60 ^ at' = f * leN (us.take i) * 60 ^ at' + xf * 60 ^ (at' + i) ∧ ((∀ hlt : i < us.length, us[i] * (f : Int) = (xf : Int)) ∧ (¬ i < us.length → xf = 0)) := by
      by_cases hlt : i < us.length
      · have hd := hus _ (List.getElem_mem hlt)
        have ht := leN_take hlt
        obtain ⟨d, hde⟩ : ∃ d : Nat, us[i] = (d : Int) := ⟨us[i].toNat, by omega⟩
        rw [hde, Int.toNat_natCast] at ht
        rw [hde] at hd
        have hdf : d * f ≤ 59 * 59 := Nat.mul_le_mul (by omega) hf
        refine ⟨d * f, hdf, ?_, fun _ => by rw [hde, Int.natCast_mul], fun h => absurd hlt h⟩
        rw [ht, Nat.pow_add]
        generalize leN (us.take i) = A
        generalize 60 ^ i = B
        generalize 60 ^ at' = C
        grind
      · refine ⟨0, by omega, ?_, fun h => absurd h hlt, fun _ => rfl⟩
        rw [List.take_of_length_le (by omega), List.take_of_length_le (by omega), Nat.zero_mul, Nat.add_zero]
    have hiM : i ≤ M := by
      rcases hgo with q | q
      · omega
      · apply Classical.byContradiction
        intro hh
        have := hic (by omega)
        omega
    have hE2 : leN L + (c + xf) * 60 ^ (at' + i) = leN L0 + f * leN (us.take (i + 1)) * 60 ^ at' := by rw [hxe, Nat.add_mul]; omega
    have hc1 : c + xf ≤ 3540 := by omega
    have hcM : i = M → c + xf ≤ 59 := fun q => by have := hxn.2 (by omega); omega
    obtain ⟨c1, hc1e⟩ : ∃ c1, c1 = c + xf := ⟨_, rfl⟩
    by_cases hlt : i < us.length
    case' pos =>
      have hd := hus _ (List.getElem_mem hlt)
      have hxv := hxn.1 hlt
      have hc1v : (c : Int) + us[i] * (f : Int) = (c1 : Int) := by omega
      obtain ⟨au', cu', q1, _, hv⟩ := hu H hfr
      obtain ⟨bu, offu, allu, rwu, hau, hbu, hgu, htu⟩ := hv (by intro h; rw [h] at hlt; exact absurd hlt (Nat.not_lt_zero _))
      have e1' : E.look 1 top = .slice (some ⟨bu, offu, none⟩) us.length cu := by rw [e1, (Value.slice.inj q1).1, hau]
      have h1 := at_cut1 _ _ _ (htu i hlt)
      rw [Nat.mul_one] at h1
      have ilt : (i : Int) < (us.length : Int) := by omega
      generalize us[i] = x at *
      have hxb : 0 ≤ x * (f : Int) ∧ x * (f : Int) ≤ 3481 := by omega
      repeat' (first
    | ((with_reducible first | refine optP_id ?_ | refine condP_id ?_ | refine condO_id ?_ | refine resP_id ?_); conv => { arg 1; simp (disch := first | assumption | omega) only [push_cast, ↓reduceIte, reduceIte, Nat.reduceEqDiff, Nat.reduceAdd, Nat.reduceSub, Nat.reduceMul, Nat.reduceBEq, Int.reduceNeg, e0, e1', e2, e3, e9, e10, hgu, h1, Nat.mul_one] }; first | ((with_reducible refine optP_id ?_); refine optP_some ?_) | ((with_reducible refine condP_id ?_); first | refine qcy ?_ | refine qcx ?_ | refine qco ?_ | refine condP_decn (fun hc => ?_) (fun hc => ?_) | refine condP_dec (fun hc => ?_) (fun hc => ?_) | refine qct ?_ | refine qcf ?_ | refine condP_bool (fun hc => ?_) (fun hc => ?_)) | ((with_reducible refine condO_id ?_); refine condO_some ?_) | ((with_reducible refine resP_id ?_); refine resP_one ?_))
    | refine wk_seq ?_ | refine wk_region ?_ | refine wk_block ?_ | refine wk_inBlock ?_ | refine wk_skip ?_ | refine wo_nil ?_ | refine wk_exit ?_ | refine exitK_code ?_ | refine exitK_hit ?_ | refine exitK_miss rfl ?_ | refine exitK_inLoop ?_ | refine wk_cond ?_ | refine wk_ret ?_ | refine wk_nil ?_ | refine wo_dst rfl (opR_pick ?_) | refine wo_guard rfl rfl ?_ | refine wo_guardn rfl ?_ | refine wo_dst rfl (opR_pure ?_) | refine wo_nodst (opR_pure ?_)
    | refine give_ret ?_ | refine give_end ?_)
    case' neg =>
      have hx0 := hxn.2 hlt
      have hc1v : (c : Int) = (c1 : Int) := by omega
      have ilt : ¬ (i : Int) < (us.length : Int) := by omega
      have c0 : (c : Int) > 0 := by omega
      repeat' (first
    | ((with_reducible first | refine optP_id ?_ | refine condP_id ?_ | refine condO_id ?_ | refine resP_id ?_); conv => { arg 1; simp (disch := first | assumption | omega) only [push_cast, ↓reduceIte, reduceIte, Nat.reduceEqDiff, Nat.reduceAdd, Nat.reduceSub, Nat.reduceMul, Nat.reduceBEq, Int.reduceNeg, e0, e1, e2, e3, e9, e10] }; first | ((with_reducible refine optP_id ?_); refine optP_some ?_) | ((with_reducible refine condP_id ?_); first | refine qcy ?_ | refine qcx ?_ | refine qco ?_ | refine condP_decn (fun hc => ?_) (fun hc => ?_) | refine condP_dec (fun hc => ?_) (fun hc => ?_) | refine qct ?_ | refine qcf ?_ | refine condP_bool (fun hc => ?_) (fun hc => ?_)) | ((with_reducible refine condO_id ?_); refine condO_some ?_) | ((with_reducible refine resP_id ?_); refine resP_one ?_))
    | refine wk_seq ?_ | refine wk_region ?_ | refine wk_block ?_ | refine wk_inBlock ?_ | refine wk_skip ?_ | refine wo_nil ?_ | refine wk_exit ?_ | refine exitK_code ?_ | refine exitK_hit ?_ | refine exitK_miss rfl ?_ | refine exitK_inLoop ?_ | refine wk_cond ?_ | refine wk_ret ?_ | refine wk_nil ?_ | refine wo_dst rfl (opR_pick ?_) | refine wo_guard rfl rfl ?_ | refine wo_guardn rfl ?_ | refine wo_dst rfl (opR_pure ?_) | refine wo_nodst (opR_pure ?_)
    | refine give_ret ?_ | refine give_end ?_)
    all_goals
      refine wk_loop (fun n E H' => ∃ (L' : List Int) (b' : Nat), n = at' + i + 1 - L'.length ∧ L.length ≤ L'.length ∧ L'.length ≤ max L.length (at' + i + 1) ∧ digs L' ∧ leN L' = leN L ∧ (∀ k (hk : k < L'.length), L.length ≤ k → L'[k] = 0) ∧ OwnB L0 b0 h.next H' L' b' ∧ Fr L0 b0 h H' ∧ E.look 0 top = .slice (ownB L' b') L'.length L'.length ∧ E.look 1 top = .slice au us.length cu ∧ E.look 2 top = .int .i64 (f : Int) ∧ E.look 3 top = .int .i64 (at' : Int) ∧ E.look 9 top = .int .i64 (c1 : Int) ∧ E.look 10 top = .int .i64 (i : Int)) (at' + i + 1 - L.length)
        ⟨L, b, rfl, Nat.le_refl _, by omega, hL, rfl, fun k hk h => absurd h (by omega), hown, hfr, by simp (disch := first | assumption | omega) only [push_cast, ↓reduceIte, reduceIte, Nat.reduceEqDiff, Nat.reduceAdd, Nat.reduceSub, Nat.reduceMul, Nat.reduceBEq, Int.reduceNeg, e0], by simp (disch := first | assumption | omega) only [push_cast, ↓reduceIte, reduceIte, Nat.reduceEqDiff, Nat.reduceAdd, Nat.reduceSub, Nat.reduceMul, Nat.reduceBEq, Int.reduceNeg, e1], by simp (disch := first | assumption | omega) only [push_cast, ↓reduceIte, reduceIte, Nat.reduceEqDiff, Nat.reduceAdd, Nat.reduceSub, Nat.reduceMul, Nat.reduceBEq, Int.reduceNeg, e2], by simp (disch := first | assumption | omega) only [push_cast, ↓reduceIte, reduceIte, Nat.reduceEqDiff, Nat.reduceAdd, Nat.reduceSub, Nat.reduceMul, Nat.reduceBEq, Int.reduceNeg, e3], by simp (disch := first | assumption | omega) only [push_cast, ↓reduceIte, reduceIte, Nat.reduceEqDiff, Nat.reduceAdd, Nat.reduceSub, Nat.reduceMul, Nat.reduceBEq, Int.reduceNeg, hc1v, e9], by simp (disch := first | assumption | omega) only [push_cast, ↓reduceIte, reduceIte, Nat.reduceEqDiff, Nat.reduceAdd, Nat.reduceSub, Nat.reduceMul, Nat.reduceBEq, Int.reduceNeg, e10]⟩ ?_
      rintro n2 E2 H2 ⟨L', b', rfl, l1, l2, hL', hv', hz', hown', hfr', f0, f1, f2, f3, f9, f10⟩ next2
      have hfn := hfr'.1
      by_cases hpad : L'.length ≤ at' + i
      · have hp : (L'.length : Int) ≤ (at' : Int) + (i : Int) := by omega
        repeat' (first
    | ((with_reducible first | refine optP_id ?_ | refine condP_id ?_ | refine condO_id ?_ | refine resP_id ?_); conv => { arg 1; simp (disch := first | assumption | omega) only [push_cast, ↓reduceIte, reduceIte, Nat.reduceEqDiff, Nat.reduceAdd, Nat.reduceSub, Nat.reduceMul, Nat.reduceBEq, Int.reduceNeg, f0, f1, f2, f3, f9, f10] }; first | ((with_reducible refine optP_id ?_); refine optP_some ?_) | ((with_reducible refine condP_id ?_); first | refine qcy ?_ | refine qcx ?_ | refine qco ?_ | refine condP_decn (fun hc => ?_) (fun hc => ?_) | refine condP_dec (fun hc => ?_) (fun hc => ?_) | refine qct ?_ | refine qcf ?_ | refine condP_bool (fun hc => ?_) (fun hc => ?_)) | ((with_reducible refine condO_id ?_); refine condO_some ?_) | ((with_reducible refine resP_id ?_); refine resP_one ?_))
    | refine wk_seq ?_ | refine wk_region ?_ | refine wk_block ?_ | refine wk_inBlock ?_ | refine wk_skip ?_ | refine wo_nil ?_ | refine wk_exit ?_ | refine exitK_code ?_ | refine exitK_hit ?_ | refine exitK_miss rfl ?_ | refine exitK_inLoop ?_ | refine wk_cond ?_ | refine wk_ret ?_ | refine wk_nil ?_ | refine wo_dst rfl (opR_pick ?_) | refine wo_guard rfl rfl ?_ | refine wo_guardn rfl ?_ | refine wo_dst rfl (opR_pure ?_) | refine wo_nodst (opR_pure ?_)
    | refine give_ret ?_ | refine give_end ?_)
        conv => { arg 1; simp (disch := first | assumption | omega) only [push_cast, ↓reduceIte, reduceIte, Nat.reduceEqDiff, Nat.reduceAdd, Nat.reduceSub, Nat.reduceMul, Nat.reduceBEq, Int.reduceNeg, ap133] }
        refine optP_one (x := 0) (e' := 5) (rw' := true) encB_len encB_flat (by omega) (by omega) (fun hn => by obtain ⟨q0, q1, q2⟩ := hown' hn; simp (disch := first | assumption | omega) only [push_cast, ↓reduceIte, reduceIte, Nat.reduceEqDiff, Nat.reduceAdd, Nat.reduceSub, Nat.reduceMul, Nat.reduceBEq, Int.reduceNeg]; exact q1) (by unfold encB; simp (disch := first | assumption | omega) only [push_cast, ↓reduceIte, reduceIte, Nat.reduceEqDiff, Nat.reduceAdd, Nat.reduceSub, Nat.reduceMul, Nat.reduceBEq, Int.reduceNeg]) ?_
        intro H3 n3 new3 keep3
        simp only [next_new] at n3 new3 keep3
        repeat' (first
    | ((with_reducible first | refine optP_id ?_ | refine condP_id ?_ | refine condO_id ?_ | refine resP_id ?_); conv => { arg 1; simp (disch := first | assumption | omega) only [push_cast, ↓reduceIte, reduceIte, Nat.reduceEqDiff, Nat.reduceAdd, Nat.reduceSub, Nat.reduceMul, Nat.reduceBEq, Int.reduceNeg, f0, f1, f2, f3, f9, f10] }; first | ((with_reducible refine optP_id ?_); refine optP_some ?_) | ((with_reducible refine condP_id ?_); first | refine qcy ?_ | refine qcx ?_ | refine qco ?_ | refine condP_decn (fun hc => ?_) (fun hc => ?_) | refine condP_dec (fun hc => ?_) (fun hc => ?_) | refine qct ?_ | refine qcf ?_ | refine condP_bool (fun hc => ?_) (fun hc => ?_)) | ((with_reducible refine condO_id ?_); refine condO_some ?_) | ((with_reducible refine resP_id ?_); refine resP_one ?_))
    | refine wk_seq ?_ | refine wk_region ?_ | refine wk_block ?_ | refine wk_inBlock ?_ | refine wk_skip ?_ | refine wo_nil ?_ | refine wk_exit ?_ | refine exitK_code ?_ | refine exitK_hit ?_ | refine exitK_miss rfl ?_ | refine exitK_inLoop ?_ | refine wk_cond ?_ | refine wk_ret ?_ | refine wk_nil ?_ | refine wo_dst rfl (opR_pick ?_) | refine wo_guard rfl rfl ?_ | refine wo_guardn rfl ?_ | refine wo_dst rfl (opR_pure ?_) | refine wo_nodst (opR_pure ?_)
    | refine give_ret ?_ | refine give_end ?_)
        refine next2 (at' + i + 1 - (L' ++ [0]).length) _ _ (by rw [List.length_append]; simp; omega) ⟨L' ++ [0], H2.next + 1, rfl, by rw [List.length_append]; simp; omega, by rw [List.length_append]; simp; omega, digs_snoc hL' (by omega), by rw [leN_snoc0, hv'], ?_, fun _ => ⟨by omega, new3, .inl (by omega)⟩, ⟨by omega, fun c hc hne => ?_⟩, by simp (disch := first | assumption | omega) only [push_cast, ↓reduceIte, reduceIte, Nat.reduceEqDiff, Nat.reduceAdd, Nat.reduceSub, Nat.reduceMul, Nat.reduceBEq, Int.reduceNeg], by simp (disch := first | assumption | omega) only [push_cast, ↓reduceIte, reduceIte, Nat.reduceEqDiff, Nat.reduceAdd, Nat.reduceSub, Nat.reduceMul, Nat.reduceBEq, Int.reduceNeg, f1], by simp (disch := first | assumption | omega) only [push_cast, ↓reduceIte, reduceIte, Nat.reduceEqDiff, Nat.reduceAdd, Nat.reduceSub, Nat.reduceMul, Nat.reduceBEq, Int.reduceNeg, f2], by simp (disch := first | assumption | omega) only [push_cast, ↓reduceIte, reduceIte, Nat.reduceEqDiff, Nat.reduceAdd, Nat.reduceSub, Nat.reduceMul, Nat.reduceBEq, Int.reduceNeg, f3], by simp (disch := first | assumption | omega) only [push_cast, ↓reduceIte, reduceIte, Nat.reduceEqDiff, Nat.reduceAdd, Nat.reduceSub, Nat.reduceMul, Nat.reduceBEq, Int.reduceNeg, f9], by simp (disch := first | assumption | omega) only [push_cast, ↓reduceIte, reduceIte, Nat.reduceEqDiff, Nat.reduceAdd, Nat.reduceSub, Nat.reduceMul, Nat.reduceBEq, Int.reduceNeg, f10]⟩
        · intro k hk hkL
          by_cases hk2 : k < L'.length
          · rw [List.getElem_append_left hk2]; exact hz' k hk2 hkL
          · rw [List.getElem_append_right (by omega)]; simp
        · rw [keep3 c (by omega) (fun hn => ?_)]
          · simp (disch := first | assumption | omega) only [push_cast, ↓reduceIte, reduceIte, Nat.reduceEqDiff, Nat.reduceAdd, Nat.reduceSub, Nat.reduceMul, Nat.reduceBEq, Int.reduceNeg]; exact hfr'.2 c hc hne
          · rcases (hown' hn).2.2 with q | ⟨q1, q2⟩
            · omega
            · rw [q2]; exact hne q1
      · have hlen : at' + i < L'.length := by omega
        have hp : ¬ (L'.length : Int) ≤ (at' : Int) + (i : Int) := by omega
        have hn' : L' ≠ [] := fun h => by rw [h] at hlen; exact absurd hlen (Nat.not_lt_zero _)
        obtain ⟨o1, o2, o3⟩ := hown' hn'
        rw [flatB] at o2
        rw [ownB_ne hn'] at f0
        obtain ⟨k, hk⟩ : ∃ k, k = at' + i := ⟨_, rfl⟩
        have ek : (at' : Int) + (i : Int) = (k : Int) := by omega
        have hkl : k < L'.length := by omega
        have hdw := hL' _ (List.getElem_mem hkl)
        have a1 : at? (ints .u8 L') k = some (.int .u8 L'[k]) := ints_at .u8 hkl
        have stp := add_step (c := c1) hkl hL'
        have hzk := hz' k hkl
        obtain ⟨w, hw⟩ : ∃ w : Nat, L'[k] = (w : Int) := ⟨L'[k].toNat, by omega⟩
        rw [hw, Int.toNat_natCast] at stp
        rw [hw] at a1 hdw hzk
        have ov : over (ints .u8 L') k [.int .u8 (((c1 + w) % 60 : Nat) : Int)] = some (ints .u8 (L'.set k (((c1 + w) % 60 : Nat) : Int))) := ints_over .u8 _ hkl
        have em : (((c1 + w) % 60 : Nat) : Int) = ((c1 : Int) + (w : Int)) % 60 := by omega
        have eq60 : (((c1 + w) / 60 : Nat) : Int) = ((c1 : Int) + (w : Int)) / 60 := by omega
        have u0 : (0 : Int) ≤ ((c1 : Int) + (w : Int)) % 60 := by omega
        have u1 : ((c1 : Int) + (w : Int)) % 60 ≤ 255 := by omega
        have hds : digs (L'.set k (((c1 + w) % 60 : Nat) : Int)) := digs_set hL' k (by omega)
        have hls : (L'.set k (((c1 + w) % 60 : Nat) : Int)).length = L'.length := List.length_set ..
        have hns : L'.set k (((c1 + w) % 60 : Nat) : Int) ≠ [] := fun h => by rw [h] at hls; simp at hls; omega
        have hkL : i = M → w = 0 := fun q => by have := hzk (by omega); omega
        rw [em] at ov
        rw [em] at stp hds hls hns
        generalize L'.set k (((c1 : Int) + (w : Int)) % 60) = L2 at *
        have hE3 : leN L2 + (c1 + w) / 60 * 60 ^ (at' + (i + 1)) = leN L0 + f * leN (us.take (i + 1)) * 60 ^ at' := by
          rw [show at' + (i + 1) = k + 1 by omega, stp, hv', ← hE2, hc1e, hk]
        generalize ints .u8 L' = C at *
        generalize hC2 : ints .u8 L2 = C2 at *
        repeat' (first
    | ((with_reducible first | refine optP_id ?_ | refine condP_id ?_ | refine condO_id ?_ | refine resP_id ?_); conv => { arg 1; simp (disch := first | assumption | omega) only [push_cast, ↓reduceIte, reduceIte, Nat.reduceEqDiff, Nat.reduceAdd, Nat.reduceSub, Nat.reduceMul, Nat.reduceBEq, Int.reduceNeg, f0, f1, f2, f3, f9, f10, ek, o2, a1, ov, Nat.zero_add, Nat.mul_one] }; first | ((with_reducible refine optP_id ?_); refine optP_some ?_) | ((with_reducible refine condP_id ?_); first | refine qcy ?_ | refine qcx ?_ | refine qco ?_ | refine condP_decn (fun hc => ?_) (fun hc => ?_) | refine condP_dec (fun hc => ?_) (fun hc => ?_) | refine qct ?_ | refine qcf ?_ | refine condP_bool (fun hc => ?_) (fun hc => ?_)) | ((with_reducible refine condO_id ?_); refine condO_some ?_) | ((with_reducible refine resP_id ?_); refine resP_one ?_))
    | refine wk_seq ?_ | refine wk_region ?_ | refine wk_block ?_ | refine wk_inBlock ?_ | refine wk_skip ?_ | refine wo_nil ?_ | refine wk_exit ?_ | refine exitK_code ?_ | refine exitK_hit ?_ | refine exitK_miss rfl ?_ | refine exitK_inLoop ?_ | refine wk_cond ?_ | refine wk_ret ?_ | refine wk_nil ?_ | refine wo_dst rfl (opR_pick ?_) | refine wo_guard rfl rfl ?_ | refine wo_guardn rfl ?_ | refine wo_dst rfl (opR_pure ?_) | refine wo_nodst (opR_pure ?_)
    | refine give_ret ?_ | refine give_end ?_)
        exact next (M + 1 - (i + 1)) _ _ (by omega) ⟨i + 1, (c1 + w) / 60, b', L2, rfl, by omega, by omega, by omega, hds, by omega, by omega, hE3, fun _ => ⟨by simp only [next_set]; exact o1, by rw [flatB, hC2]; simp (disch := first | assumption | omega) only [push_cast, ↓reduceIte, reduceIte, Nat.reduceEqDiff, Nat.reduceAdd, Nat.reduceSub, Nat.reduceMul, Nat.reduceBEq, Int.reduceNeg], o3⟩, ⟨by simp only [next_set]; omega, fun c hc hne => by
            have : c ≠ b' := by
              rcases o3 with q | ⟨q1, q2⟩
              · omega
              · rw [q2]; exact hne q1
            simp (disch := first | assumption | omega) only [push_cast, ↓reduceIte, reduceIte, Nat.reduceEqDiff, Nat.reduceAdd, Nat.reduceSub, Nat.reduceMul, Nat.reduceBEq, Int.reduceNeg]
            exact hfr'.2 c hc hne⟩, by rw [ownB_ne hns, hls]; simp (disch := first | assumption | omega) only [push_cast, ↓reduceIte, reduceIte, Nat.reduceEqDiff, Nat.reduceAdd, Nat.reduceSub, Nat.reduceMul, Nat.reduceBEq, Int.reduceNeg, f0], by simp (disch := first | assumption | omega) only [push_cast, ↓reduceIte, reduceIte, Nat.reduceEqDiff, Nat.reduceAdd, Nat.reduceSub, Nat.reduceMul, Nat.reduceBEq, Int.reduceNeg, f1], by simp (disch := first | assumption | omega) only [push_cast, ↓reduceIte, reduceIte, Nat.reduceEqDiff, Nat.reduceAdd, Nat.reduceSub, Nat.reduceMul, Nat.reduceBEq, Int.reduceNeg, f2], by simp (disch := first | assumption | omega) only [push_cast, ↓reduceIte, reduceIte, Nat.reduceEqDiff, Nat.reduceAdd, Nat.reduceSub, Nat.reduceMul, Nat.reduceBEq, Int.reduceNeg, f3], by rw [eq60]; simp (disch := first | assumption | omega) only [push_cast, ↓reduceIte, reduceIte, Nat.reduceEqDiff, Nat.reduceAdd, Nat.reduceSub, Nat.reduceMul, Nat.reduceBEq, Int.reduceNeg], by simp (disch := first | assumption | omega) only [push_cast, ↓reduceIte, reduceIte, Nat.reduceEqDiff, Nat.reduceAdd, Nat.reduceSub, Nat.reduceMul, Nat.reduceBEq, Int.reduceNeg, Int.natCast_add, Int.natCast_one]⟩
  · have hlt : ¬ i < us.length := fun h => hgo (.inl h)
    have hc0 : c = 0 := by
      rcases Nat.eq_zero_or_pos c with q | q
      · exact q
      · exact absurd (.inr q) hgo
    have ilt : ¬ (i : Int) < (us.length : Int) := by omega
    have c0 : ¬ (c : Int) > 0 := by omega
    repeat' (first
    | ((with_reducible first | refine optP_id ?_ | refine condP_id ?_ | refine condO_id ?_ | refine resP_id ?_); conv => { arg 1; simp (disch := first | assumption | omega) only [push_cast, ↓reduceIte, reduceIte, Nat.reduceEqDiff, Nat.reduceAdd, Nat.reduceSub, Nat.reduceMul, Nat.reduceBEq, Int.reduceNeg, e0, e1, e2, e3, e9, e10] }; first | ((with_reducible refine optP_id ?_); refine optP_some ?_) | ((with_reducible refine condP_id ?_); first | refine qcy ?_ | refine qcx ?_ | refine qco ?_ | refine condP_decn (fun hc => ?_) (fun hc => ?_) | refine condP_dec (fun hc => ?_) (fun hc => ?_) | refine qct ?_ | refine qcf ?_ | refine condP_bool (fun hc => ?_) (fun hc => ?_)) | ((with_reducible refine condO_id ?_); refine condO_some ?_) | ((with_reducible refine resP_id ?_); refine resP_one ?_))
    | refine wk_seq ?_ | refine wk_region ?_ | refine wk_block ?_ | refine wk_inBlock ?_ | refine wk_skip ?_ | refine wo_nil ?_ | refine wk_exit ?_ | refine exitK_code ?_ | refine exitK_hit ?_ | refine exitK_miss rfl ?_ | refine exitK_inLoop ?_ | refine wk_cond ?_ | refine wk_ret ?_ | refine wk_nil ?_ | refine wo_dst rfl (opR_pick ?_) | refine wo_guard rfl rfl ?_ | refine wo_guardn rfl ?_ | refine wo_dst rfl (opR_pure ?_) | refine wo_nodst (opR_pure ?_)
    | refine give_ret ?_ | refine give_end ?_)
    rw [hc0, Nat.zero_mul, Nat.add_zero, List.take_of_length_le (by omega)] at hE
    exact ⟨⟨L, b, rfl, hL, hE, hll, by omega, hown⟩, hfr⟩
end Go.Proofs.YtelepfablohdmaaGreatDoor
namespace Go.Proofs.YtelepfablohdmaaGreatDoor
open Go.Ev
/-- what copy does to a part of an array of bytes -/
noncomputable def cpS (h : AHeap) (a : Addr) (dLen : Nat) (s : Value) : Option (Value × AHeap) :=
  match srcLen s with
  | some m => match srcCells h 1 (Nat.min m dLen) s with
    | some cs => match cs with
      | [] => some (goI (Nat.min m dLen), h)
      | _ :: _ => match cond (allFlat cs) (putCells h a cs) none with
        | some h' => some (goI (Nat.min m dLen), h')
        | none => none
    | none => none
  | none => none
theorem cp133 (h : AHeap) (a : Addr) (n c : Nat) (s : Value) : copyOp Tryz.prog h 133 (.slice (some a) n c) s = cpS h a n s := by
  have h1 : Tryz.prog.underlying 133 = some (.slice 5) := by kernel_rfl
  obtain ⟨i, h2, h3⟩ : ∃ i, Tryz.prog.info? 5 = some i ∧ i.size = 1 := by
    have hm : (Tryz.prog.info? 5).map (·.size) = some 1 := by kernel_rfl
    cases hi : Tryz.prog.info? 5 with
    | none => rw [hi] at hm; cases hm
    | some i => rw [hi] at hm; exact ⟨i, rfl, Option.some.inj hm⟩
  unfold copyOp cpS
  rw [h1]
  cases srcLen s with
  | none => rfl
  | some m =>
    dsimp only
    rw [h2]
    dsimp only
    rw [h3]
    cases srcCells h 1 (Nat.min m n) s with
    | none => rfl
    | some cs => cases cs <;> rfl
theorem over0_pre : ∀ {vs l : List Value}, vs.length ≤ l.length → over0 vs l = some (vs ++ l.drop vs.length)
  | [], l, _ => by rw [over0_nil]; rfl
  | v :: vs, [], h => by cases h
  | v :: vs, x :: l, h => by
    rw [over0_cons, over0_pre (by simpa using h)]
    rfl
theorem ints_app (k : IntKind) (l m : List Int) : ints k (l ++ m) = ints k l ++ ints k m := by simp [ints]
theorem optP_copy {H : AHeap} {b e0 e c : Nat} {L : List Int} {v : Value} {Q : Value → AHeap → Prop} (hd : digs L) (hl : L.length ≤ 146) (hg : H.get b = some (.cells (ints .u8 (numD 0)) e0 true)) (hv : SlIn encB 1 e H v L)
    (q : ∀ H', H'.next = H.next → H'.get b = some (.cells (ints .u8 (numD (leN L))) e0 true) → (∀ c, c ≠ b → H'.get c = H.get c) → ∀ n : Int, Q (.int .i64 n) H') : OptP (copyOp Tryz.prog H 133 (.slice (some ⟨b, 0, none⟩) 146 c) v) Q := by
  rw [cp133]
  have hN := numD_leN hd hl
  obtain ⟨a, cc, rfl, _, hv⟩ := hv
  have hm : Nat.min L.length 146 = L.length := Nat.min_eq_left hl
  unfold cpS
  by_cases hne : L = []
  · subst hne
    have hs : srcCells H 1 0 (.slice a 0 cc) = some [] := src_zero _ _ _ _
    show OptP (match srcCells H 1 0 (.slice a 0 cc) with
    | some cs => match cs with
      | [] => some (goI (Nat.min 0 146), H)
      | _ :: _ => match cond (allFlat cs) (putCells H ⟨b, 0, none⟩ cs) none with
        | some h' => some (goI (Nat.min 0 146), h')
        | none => none
    | none => none) Q
    rw [hs]
    exact optP_some (q H rfl hg (fun _ _ => rfl) _)
  · obtain ⟨b', off, all, rw', rfl, h2, h3, h4⟩ := hv hne
    have hcut : cut all off (L.length * 1) = some (flatE encB L) := cut_many encB_len h4
    have hs : srcCells H 1 L.length (.slice (some ⟨b', off, none⟩) L.length cc) = some (flatE encB L) := src_at h3 hcut
    show OptP (match srcCells H 1 (Nat.min L.length 146) (.slice (some ⟨b', off, none⟩) L.length cc) with
    | some cs => match cs with
      | [] => some (goI (Nat.min L.length 146), H)
      | _ :: _ => match cond (allFlat cs) (putCells H ⟨b, 0, none⟩ cs) none with
        | some h' => some (goI (Nat.min L.length 146), h')
        | none => none
    | none => none) Q
    rw [hm, hs, flatB]
    have hfl := ints_flat .u8 L
    have hlen : (ints .u8 L).length = L.length := by simp [ints]
    have hp : putCells H ⟨b, 0, none⟩ (ints .u8 L) = some (H.set b (.cells (ints .u8 (numD (leN L))) e0 true)) := by
      rw [put_eq, hg, putK_some, over_zero, over0_pre (by rw [num_len, hlen]; exact hl), hN, ints_app, numD_zero]
      have : (ints .u8 (List.replicate 146 0)).drop (ints .u8 L).length = ints .u8 (List.replicate (146 - L.length) 0) := by
        rw [hlen]; unfold ints; rw [← List.map_drop, List.drop_replicate]
      rw [this]
      rfl
    cases hc : ints .u8 L with
    | nil => rw [hc] at hlen; exact absurd (List.eq_nil_of_length_eq_zero hlen.symm) hne
    | cons x cs =>
      dsimp only
      rw [← hc, hfl, cond_true, hp]
      exact optP_some (q _ (next_set _ _) (by simp (disch := first | assumption | omega) only [push_cast, ↓reduceIte, reduceIte, Nat.reduceEqDiff, Nat.reduceAdd, Nat.reduceSub, Nat.reduceMul, Nat.reduceBEq, Int.reduceNeg]) (fun c hc => by simp (disch := first | assumption | omega) only [push_cast, ↓reduceIte, reduceIte, Nat.reduceEqDiff, Nat.reduceAdd, Nat.reduceSub, Nat.reduceMul, Nat.reduceBEq, Int.reduceNeg]) _)
theorem slArr_all (h : AHeap) {b off : Nat} : pv h (sliceArr 1 146 (.pointer (some ⟨b, off, none⟩)) none none none) = some (.slice (some ⟨b, off, none⟩) 146 (EX + 146), h) := by kernel_rfl
set_option maxRecDepth 100000 in
set_option maxHeartbeats 8000000 in
theorem held_w {e : Nat} (L : List Int) (hd : digs L) (hl : L.length ≤ 146) (v : Value) (h : AHeap) (hv : SlIn encB 1 e h v L) :
    Wc pr (.func 129) [v] h fun r h' => r = numV (leN L) ∧ Gr h h' := by
  have hv0 := hv
  obtain ⟨a, c, rfl, hc, hv⟩ := hv
  refine wc_func Tryz.func129 rfl rfl rfl rfl ?_
  generalize hZ : ints .u8 (numD 0) = Z
  have zv : zeroV Tryz.prog 87 = some (.agg Z.toArray) := by rw [← hZ]; exact zv87
  repeat' (first
    | ((with_reducible first | refine optP_id ?_ | refine resP_id ?_); conv => { arg 1; simp (disch := first | assumption | omega) only [push_cast, ↓reduceIte, reduceIte, Nat.reduceEqDiff, Nat.reduceAdd, Nat.reduceSub, Nat.reduceMul, Nat.reduceBEq, Int.reduceNeg, zv, sl85, slArr_all] }; first | ((with_reducible refine optP_id ?_); refine optP_some ?_) | ((with_reducible refine resP_id ?_); refine resP_one ?_))
    | refine wk_seq ?_ | refine wk_region ?_ | refine wo_nil ?_ | refine wk_ret ?_ | refine wk_nil ?_ | refine wo_dst rfl (opR_pure ?_) | refine wo_nodst (opR_pure ?_)
    | refine give_ret ?_ | refine give_end ?_)
  conv => { arg 1; simp (disch := first | assumption | omega) only [push_cast, ↓reduceIte, reduceIte, Nat.reduceEqDiff, Nat.reduceAdd, Nat.reduceSub, Nat.reduceMul, Nat.reduceBEq, Int.reduceNeg] }
  refine optP_copy (e0 := 87) hd hl (by simp (disch := first | assumption | omega) only [push_cast, ↓reduceIte, reduceIte, Nat.reduceEqDiff, Nat.reduceAdd, Nat.reduceSub, Nat.reduceMul, Nat.reduceBEq, Int.reduceNeg, hZ]) (SlIn.gr hv0 (by (repeat (first | exact Gr.refl _ | assumption | (refine Gr.trans ?_ (by assumption)) | refine Gr.set ?_ (by first | exact Nat.le_refl _ | omega | (simp only [next_new, next_set]; omega)) _ | refine Gr.new ?_ _)))) ?_
  intro H' hn hg hk n
  simp only [next_new] at hn
  have e2 : H'.get h.next = some (.cells Z 87 true) := by rw [hk _ (by omega)]; simp (disch := first | assumption | omega) only [push_cast, ↓reduceIte, reduceIte, Nat.reduceEqDiff, Nat.reduceAdd, Nat.reduceSub, Nat.reduceMul, Nat.reduceBEq, Int.reduceNeg]
  have gr : Gr h H' := ⟨by omega, fun b hb => by rw [hk _ (by omega)]; simp (disch := first | assumption | omega) only [push_cast, ↓reduceIte, reduceIte, Nat.reduceEqDiff, Nat.reduceAdd, Nat.reduceSub, Nat.reduceMul, Nat.reduceBEq, Int.reduceNeg]⟩
  have hcut : takeN 146 (ints .u8 (numD (leN L))) = some (ints .u8 (numD (leN L))) := num_cut _
  have hov : over0 (ints .u8 (numD (leN L))) Z = some (ints .u8 (numD (leN L))) := over_all (by rw [← hZ, num_len, num_len])
  have hst := storeK_all (num_ne _) (num_len _) (ints_flat _ _) e2 hov
  rw [num_cells]
  generalize ints .u8 (numD (leN L)) = C at *
  repeat' (first
    | ((with_reducible first | refine optP_id ?_ | refine resP_id ?_); conv => { arg 1; simp (disch := first | assumption | omega) only [push_cast, ↓reduceIte, reduceIte, Nat.reduceEqDiff, Nat.reduceAdd, Nat.reduceSub, Nat.reduceMul, Nat.reduceBEq, Int.reduceNeg, hg, e2, hcut, hst] }; first | ((with_reducible refine optP_id ?_); refine optP_some ?_) | ((with_reducible refine resP_id ?_); refine resP_one ?_))
    | refine wk_seq ?_ | refine wk_region ?_ | refine wo_nil ?_ | refine wk_ret ?_ | refine wk_nil ?_ | refine wo_dst rfl (opR_pure ?_) | refine wo_nodst (opR_pure ?_)
    | refine give_ret ?_ | refine give_end ?_)
  exact ⟨rfl, by (repeat (first | exact Gr.refl _ | assumption | (refine Gr.trans ?_ (by assumption)) | refine Gr.set ?_ (by first | exact Nat.le_refl _ | omega | (simp only [next_new, next_set]; omega)) _ | refine Gr.new ?_ _))⟩
theorem digs_nil : digs [] := fun x hx => (nomatch hx)
theorem bs82_2 (x y : Int) : buildSliceA Tryz.prog 82 2 [(0, .int .i64 x), (1, .int .i64 y)] = some (.cells [.int .i64 x, .int .i64 y] 24 true, fun b => .slice (some ⟨b, 0, none⟩) 2 (EX + 2)) := by kernel_rfl
attribute [push_cast] bs82_2
end Go.Proofs.YtelepfablohdmaaGreatDoor
