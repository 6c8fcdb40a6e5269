/- Contracts: held, multiply of bytes, times; cmp.Or. -/
import Derived.Test.YtcfohcpcepeolaaGreatDoorVD
import Derived.Test.YtcfohcpcepeolaaGreatDoorVB
set_option linter.unusedSimpArgs false
set_option linter.unusedVariables false
/- Lists of digits, the least significant one first. -/
namespace Go.Proofs.YtcfohcpcepeolaaGreatDoor
open Go.Ev
/-- the number of digits, the least significant one first -/
def leN : List Int → Nat
  | [] => 0
  | d :: t => d.toNat + 60 * leN t
theorem leN_app : ∀ (l m : List Int), leN (l ++ m) = leN l + 60 ^ l.length * leN m
  | [], m => by simp [leN]
  | d :: t, m => by
    rw [List.cons_append, leN, leN_app t m, leN, List.length_cons, Nat.pow_succ, Nat.mul_add, ← Nat.mul_assoc, Nat.mul_comm 60, Nat.mul_comm (60 ^ t.length) 60, Nat.add_assoc]
theorem leN_zeros : ∀ n, leN (List.replicate n 0) = 0
  | 0 => rfl
  | n + 1 => by rw [List.replicate_succ, leN, leN_zeros n]; rfl
theorem leN_set : ∀ {l : List Int} {k : Nat} (hk : k < l.length) (v : Int), leN (l.set k v) + (l[k]).toNat * 60 ^ k = leN l + v.toNat * 60 ^ k
  | d :: t, 0, _, v => by simp [leN]; omega
  | d :: t, k + 1, hk, v => by
    have := leN_set (l := t) (k := k) (by simpa using hk) v
    simp only [List.set_cons_succ, leN, List.getElem_cons_succ, Nat.pow_succ]
    rw [← Nat.mul_assoc, ← Nat.mul_assoc]
    omega
theorem leN_take {l : List Int} {i : Nat} (hi : i < l.length) : leN (l.take (i + 1)) = leN (l.take i) + (l[i]).toNat * 60 ^ i := by
  rw [List.take_succ_eq_append_getElem hi, leN_app, List.length_take, Nat.min_eq_left (Nat.le_of_lt hi)]
  simp [leN, Nat.mul_comm]
theorem leN_lt : ∀ {l : List Int}, digs l → leN l < 60 ^ l.length
  | [], _ => by decide
  | d :: t, h => by
    have h1 := h d (.head _)
    have h2 := leN_lt fun x hx => h x (.tail _ hx)
    rw [List.length_cons, Nat.pow_succ, leN]
    omega
theorem leN_dig : ∀ {l : List Int}, digs l → ∀ i, leN l / 60 ^ i % 60 = (l[i]?.getD 0).toNat
  | [], _, i => by simp [leN]
  | d :: t, h, 0 => by
    have h1 := h d (.head _)
    simp [leN]
    omega
  | d :: t, h, i + 1 => by
    have h1 := h d (.head _)
    have h2 := leN_dig (l := t) (fun x hx => h x (.tail _ hx)) i
    rw [leN, show i + 1 = 1 + i by omega, Nat.pow_add, Nat.pow_one, ← Nat.div_div_eq_div_mul]
    have : (d.toNat + 60 * leN t) / 60 = leN t := by omega
    rw [this, h2, Nat.add_comm 1 i]
    simp
theorem usL_leN {X : Nat} : ∀ {k : Nat}, k ≤ 146 → leN (usL X k) = X % 60 ^ k
  | 0, _ => by simp [usL, leN, Nat.mod_one]
  | k + 1, hk => by
    have ih := usL_leN (X := X) (k := k) (by omega)
    have hl := usL_len (X := X) hk
    have e : usL X k = (usL X (k + 1)).take k := by
      unfold usL
      rw [List.take_take]; congr 1; omega
    have h1 := leN_take (l := usL X (k + 1)) (i := k) (by omega)
    rw [List.take_of_length_le (by omega), ← e, ih, usL_get] at h1
    rw [h1, Nat.pow_succ, Nat.mod_mul, Int.toNat_natCast, Nat.mul_comm (60 ^ k)]
theorem numD_leN {l : List Int} (h : digs l) (hl : l.length ≤ 146) : numD (leN l) = l ++ List.replicate (146 - l.length) 0 := by
  apply List.ext_getElem
  · rw [numD_len, List.length_append, List.length_replicate]; omega
  · intro j h1 h2
    rw [numD_get, leN_dig h j]
    by_cases hj : j < l.length
    · rw [List.getElem_append_left hj, List.getElem?_eq_getElem hj]
      have := h _ (List.getElem_mem hj)
      simp
      omega
    · rw [List.getElem_append_right (by omega), List.getElem_replicate, List.getElem?_eq_none (by omega)]
      rfl

theorem usL_eq {X k : Nat} (hk : k ≤ 146) (hX : X < 60 ^ k) : leN (usL X k) = X := by rw [usL_leN hk, Nat.mod_eq_of_lt hX]
theorem usL_digs {X k : Nat} (hk : k ≤ 146) : digs (usL X k) := by
  intro x hx
  obtain ⟨i, hi, rfl⟩ := List.getElem_of_mem hx
  rw [usL_get]
  have : X / 60 ^ i % 60 < 60 := Nat.mod_lt _ (by decide)
  omega
theorem digs_set {l : List Int} (h : digs l) (k : Nat) {v : Int} (hv : 0 ≤ v ∧ v < 60) : digs (l.set k v) := fun x hx => by
  rcases List.mem_or_eq_of_mem_set hx with h1 | h1
  · exact h x h1
  · rw [h1]; exact hv
/-- one digit is added: what is carried goes on -/
theorem add_step {L : List Int} {k c : Nat} (hk : k < L.length) (hL : digs L) : leN (L.set k (((c + (L[k]).toNat) % 60 : Nat) : Int)) + (c + (L[k]).toNat) / 60 * 60 ^ (k + 1) = leN L + c * 60 ^ k := by
  have h1 := leN_set hk (((c + (L[k]).toNat) % 60 : Nat) : Int)
  rw [Int.toNat_natCast] at h1
  have h2 := Nat.mod_add_div (c + (L[k]).toNat) 60
  generalize leN (L.set k _) = A at *
  generalize (L[k]).toNat = d at *
  generalize (c + d) % 60 = r at *
  generalize (c + d) / 60 = q at *
  rw [Nat.pow_succ]
  generalize 60 ^ k = P at *
  have h3 : (r + 60 * q) * P = (c + d) * P := by rw [h2]
  grind
end Go.Proofs.YtcfohcpcepeolaaGreatDoor
/- Divisions of numbers; regular numbers; the digits of a number but for its factors of 60. -/
namespace Go.Proofs.YtcfohcpcepeolaaGreatDoor
open Go.Ev
theorem pow_split_le {m n e k : Nat} (hm : m % 60 ≠ 0) (h : m * 60 ^ e = n * 60 ^ (e + k)) : m = n ∧ k = 0 := by
  have hp : 0 < 60 ^ e := Nat.pow_pos (by decide)
  rw [Nat.pow_add, Nat.mul_comm (60 ^ e), ← Nat.mul_assoc] at h
  have h2 := Nat.eq_of_mul_eq_mul_right hp h
  rcases Nat.eq_zero_or_pos k with q | q
  · subst q; simpa using h2
  · exfalso
    obtain ⟨y, rfl⟩ : ∃ y, k = y + 1 := ⟨k - 1, by omega⟩
    apply hm
    rw [h2, Nat.pow_succ, ← Nat.mul_assoc, Nat.mul_mod_left]
theorem pow_split {m n e f : Nat} (hm : m % 60 ≠ 0) (hn : n % 60 ≠ 0) (h : m * 60 ^ e = n * 60 ^ f) : m = n ∧ e = f := by
  rcases Nat.le_total e f with q | q
  · obtain ⟨k, rfl⟩ := Nat.exists_eq_add_of_le q
    obtain ⟨a, b⟩ := pow_split_le hm h
    exact ⟨a, by omega⟩
  · obtain ⟨k, rfl⟩ := Nat.exists_eq_add_of_le q
    obtain ⟨a, b⟩ := pow_split_le hn h.symm
    exact ⟨a.symm, by omega⟩
/-- the digits of a number, but for its factors of 60 -/
def nf (X : Nat) (d : List Int) : Prop := valid d ∧ (d = [] ↔ X = 0) ∧ ∃ e, valN d * 60 ^ e = X
theorem pow60_pos (e : Nat) : 0 < 60 ^ e := Nat.pow_pos (by decide)
theorem valN_pos {l : List Int} (h : valid l) (hn : l ≠ []) : 0 < valN l := Nat.lt_of_lt_of_le (pow60_pos _) (valid_ge h hn)
theorem nf_len {X K : Nat} {d : List Int} (h : nf X d) (hX : X < 60 ^ K) : d.length ≤ K := by
  by_cases hd : d = []
  · rw [hd]; exact Nat.zero_le _
  · obtain ⟨v, z, e, q⟩ := h
    have h1 := valid_ge v hd
    have h2 : valN d ≤ X := by rw [← q]; exact Nat.le_mul_of_pos_right _ (pow60_pos e)
    have h3 := (Nat.pow_lt_pow_iff_right (by decide : 1 < 60)).1 (Nat.lt_of_le_of_lt (Nat.le_trans h1 h2) hX)
    omega
end Go.Proofs.YtcfohcpcepeolaaGreatDoor
/- Contract: add, of bytes. -/
namespace Go.Proofs.YtcfohcpcepeolaaGreatDoor
open Go.Ev
theorem ap133 (h : AHeap) (b : Option Addr) (n c : Nat) (x : Value) : appendOp Tryz.prog h 133 133 (.slice b n c) x = appendS h 5 1 1 b n c x := by kernel_rfl
theorem bs133_1 (x : Int) : buildSliceA Tryz.prog 133 1 [(0, .int .u8 x)] = some (.cells [.int .u8 x] 5 true, fun b => .slice (some ⟨b, 0, none⟩) 1 (EX + 1)) := by kernel_rfl
attribute [push_cast] bs133_1
theorem flatB : ∀ l : List Int, flatE encB l = ints .u8 l
  | [] => rfl
  | x :: l => by
    rw [flatE_cons, flatB l]
    rfl
end Go.Proofs.YtcfohcpcepeolaaGreatDoor
namespace Go.Proofs.YtcfohcpcepeolaaGreatDoor
open Go.Ev
/-- what copy does to a part of an array of bytes -/
noncomputable def cpS (h : AHeap) (a : Addr) (dLen : Nat) (s : Value) : Option (Value × AHeap) :=
  match srcLen s with
  | some m => match srcCells h 1 (Nat.min m dLen) s with
    | some cs => match cs with
      | [] => some (goI (Nat.min m dLen), h)
      | _ :: _ => match cond (allFlat cs) (putCells h a cs) none with
        | some h' => some (goI (Nat.min m dLen), h')
        | none => none
    | none => none
  | none => none
theorem cp133 (h : AHeap) (a : Addr) (n c : Nat) (s : Value) : copyOp Tryz.prog h 133 (.slice (some a) n c) s = cpS h a n s := by
  have h1 : Tryz.prog.underlying 133 = some (.slice 5) := by kernel_rfl
  obtain ⟨i, h2, h3⟩ : ∃ i, Tryz.prog.info? 5 = some i ∧ i.size = 1 := by
    have hm : (Tryz.prog.info? 5).map (·.size) = some 1 := by kernel_rfl
    cases hi : Tryz.prog.info? 5 with
    | none => rw [hi] at hm; cases hm
    | some i => rw [hi] at hm; exact ⟨i, rfl, Option.some.inj hm⟩
  unfold copyOp cpS
  rw [h1]
  cases srcLen s with
  | none => rfl
  | some m =>
    dsimp only
    rw [h2]
    dsimp only
    rw [h3]
    cases srcCells h 1 (Nat.min m n) s with
    | none => rfl
    | some cs => cases cs <;> rfl
theorem over0_pre : ∀ {vs l : List Value}, vs.length ≤ l.length → over0 vs l = some (vs ++ l.drop vs.length)
  | [], l, _ => by rw [over0_nil]; rfl
  | v :: vs, [], h => by cases h
  | v :: vs, x :: l, h => by
    rw [over0_cons, over0_pre (by simpa using h)]
    rfl
theorem ints_app (k : IntKind) (l m : List Int) : ints k (l ++ m) = ints k l ++ ints k m := by simp [ints]
theorem optP_copy {H : AHeap} {b e0 e c : Nat} {L : List Int} {v : Value} {Q : Value → AHeap → Prop} (hd : digs L) (hl : L.length ≤ 146) (hg : H.get b = some (.cells (ints .u8 (numD 0)) e0 true)) (hv : SlIn encB 1 e H v L)
    (q : ∀ H', H'.next = H.next → H'.get b = some (.cells (ints .u8 (numD (leN L))) e0 true) → (∀ c, c ≠ b → H'.get c = H.get c) → ∀ n : Int, Q (.int .i64 n) H') : OptP (copyOp Tryz.prog H 133 (.slice (some ⟨b, 0, none⟩) 146 c) v) Q := by
  rw [cp133]
  have hN := numD_leN hd hl
  obtain ⟨a, cc, rfl, _, hv⟩ := hv
  have hm : Nat.min L.length 146 = L.length := Nat.min_eq_left hl
  unfold cpS
  by_cases hne : L = []
  · subst hne
    have hs : srcCells H 1 0 (.slice a 0 cc) = some [] := src_zero _ _ _ _
    show OptP (match srcCells H 1 0 (.slice a 0 cc) with
    | some cs => match cs with
      | [] => some (goI (Nat.min 0 146), H)
      | _ :: _ => match cond (allFlat cs) (putCells H ⟨b, 0, none⟩ cs) none with
        | some h' => some (goI (Nat.min 0 146), h')
        | none => none
    | none => none) Q
    rw [hs]
    exact optP_some (q H rfl hg (fun _ _ => rfl) _)
  · obtain ⟨b', off, all, rw', rfl, h2, h3, h4⟩ := hv hne
    have hcut : cut all off (L.length * 1) = some (flatE encB L) := cut_many encB_len h4
    have hs : srcCells H 1 L.length (.slice (some ⟨b', off, none⟩) L.length cc) = some (flatE encB L) := src_at h3 hcut
    show OptP (match srcCells H 1 (Nat.min L.length 146) (.slice (some ⟨b', off, none⟩) L.length cc) with
    | some cs => match cs with
      | [] => some (goI (Nat.min L.length 146), H)
      | _ :: _ => match cond (allFlat cs) (putCells H ⟨b, 0, none⟩ cs) none with
        | some h' => some (goI (Nat.min L.length 146), h')
        | none => none
    | none => none) Q
    rw [hm, hs, flatB]
    have hfl := ints_flat .u8 L
    have hlen : (ints .u8 L).length = L.length := by simp [ints]
    have hp : putCells H ⟨b, 0, none⟩ (ints .u8 L) = some (H.set b (.cells (ints .u8 (numD (leN L))) e0 true)) := by
      rw [put_eq, hg, putK_some, over_zero, over0_pre (by rw [num_len, hlen]; exact hl), hN, ints_app, numD_zero]
      have : (ints .u8 (List.replicate 146 0)).drop (ints .u8 L).length = ints .u8 (List.replicate (146 - L.length) 0) := by
        rw [hlen]; unfold ints; rw [← List.map_drop, List.drop_replicate]
      rw [this]
      rfl
    cases hc : ints .u8 L with
    | nil => rw [hc] at hlen; exact absurd (List.eq_nil_of_length_eq_zero hlen.symm) hne
    | cons x cs =>
      dsimp only
      rw [← hc, hfl, cond_true, hp]
      exact optP_some (q _ (next_set _ _) (by simp (disch := first | assumption | omega) only [push_cast, ↓reduceIte, reduceIte, Nat.reduceEqDiff, Nat.reduceAdd, Nat.reduceSub, Nat.reduceMul, Nat.reduceBEq, Int.reduceNeg]) (fun c hc => by simp (disch := first | assumption | omega) only [push_cast, ↓reduceIte, reduceIte, Nat.reduceEqDiff, Nat.reduceAdd, Nat.reduceSub, Nat.reduceMul, Nat.reduceBEq, Int.reduceNeg]) _)
theorem slArr_all (h : AHeap) {b off : Nat} : pv h (sliceArr 1 146 (.pointer (some ⟨b, off, none⟩)) none none none) = some (.slice (some ⟨b, off, none⟩) 146 (EX + 146), h) := by kernel_rfl
set_option maxRecDepth 100000 in
set_option maxHeartbeats 8000000 in
theorem held_w {e : Nat} (L : List Int) (hd : digs L) (hl : L.length ≤ 146) (v : Value) (h : AHeap) (hv : SlIn encB 1 e h v L) :
    Wc pr (.func 129) [v] h fun r h' => r = numV (leN L) ∧ Gr h h' := by
  have hv0 := hv
  obtain ⟨a, c, rfl, hc, hv⟩ := hv
  refine wc_func Tryz.func129 rfl rfl rfl rfl ?_
  generalize hZ : ints .u8 (numD 0) = Z
  have zv : zeroV Tryz.prog 87 = some (.agg Z.toArray) := by rw [← hZ]; exact zv87
  repeat' (first
    | ((with_reducible first | refine optP_id ?_ | refine resP_id ?_); conv => { arg 1; simp (disch := first | assumption | omega) only [push_cast, ↓reduceIte, reduceIte, Nat.reduceEqDiff, Nat.reduceAdd, Nat.reduceSub, Nat.reduceMul, Nat.reduceBEq, Int.reduceNeg, zv, sl85, slArr_all] }; first | ((with_reducible refine optP_id ?_); refine optP_some ?_) | ((with_reducible refine resP_id ?_); refine resP_one ?_))
    | refine wk_seq ?_ | refine wk_region ?_ | refine wo_nil ?_ | refine wk_ret ?_ | refine wk_nil ?_ | refine wo_dst rfl (opR_pure ?_) | refine wo_nodst (opR_pure ?_)
    | refine give_ret ?_ | refine give_end ?_)
  conv => { arg 1; simp (disch := first | assumption | omega) only [push_cast, ↓reduceIte, reduceIte, Nat.reduceEqDiff, Nat.reduceAdd, Nat.reduceSub, Nat.reduceMul, Nat.reduceBEq, Int.reduceNeg] }
  refine optP_copy (e0 := 87) hd hl (by simp (disch := first | assumption | omega) only [push_cast, ↓reduceIte, reduceIte, Nat.reduceEqDiff, Nat.reduceAdd, Nat.reduceSub, Nat.reduceMul, Nat.reduceBEq, Int.reduceNeg, hZ]) (SlIn.gr hv0 (by (repeat (first | exact Gr.refl _ | assumption | (refine Gr.trans ?_ (by assumption)) | refine Gr.set ?_ (by first | exact Nat.le_refl _ | omega | (simp only [next_new, next_set]; omega)) _ | refine Gr.new ?_ _)))) ?_
  intro H' hn hg hk n
  simp only [next_new] at hn
  have e2 : H'.get h.next = some (.cells Z 87 true) := by rw [hk _ (by omega)]; simp (disch := first | assumption | omega) only [push_cast, ↓reduceIte, reduceIte, Nat.reduceEqDiff, Nat.reduceAdd, Nat.reduceSub, Nat.reduceMul, Nat.reduceBEq, Int.reduceNeg]
  have gr : Gr h H' := ⟨by omega, fun b hb => by rw [hk _ (by omega)]; simp (disch := first | assumption | omega) only [push_cast, ↓reduceIte, reduceIte, Nat.reduceEqDiff, Nat.reduceAdd, Nat.reduceSub, Nat.reduceMul, Nat.reduceBEq, Int.reduceNeg]⟩
  have hcut : takeN 146 (ints .u8 (numD (leN L))) = some (ints .u8 (numD (leN L))) := num_cut _
  have hov : over0 (ints .u8 (numD (leN L))) Z = some (ints .u8 (numD (leN L))) := over_all (by rw [← hZ, num_len, num_len])
  have hst := storeK_all (num_ne _) (num_len _) (ints_flat _ _) e2 hov
  rw [num_cells]
  generalize ints .u8 (numD (leN L)) = C at *
  repeat' (first
    | ((with_reducible first | refine optP_id ?_ | refine resP_id ?_); conv => { arg 1; simp (disch := first | assumption | omega) only [push_cast, ↓reduceIte, reduceIte, Nat.reduceEqDiff, Nat.reduceAdd, Nat.reduceSub, Nat.reduceMul, Nat.reduceBEq, Int.reduceNeg, hg, e2, hcut, hst] }; first | ((with_reducible refine optP_id ?_); refine optP_some ?_) | ((with_reducible refine resP_id ?_); refine resP_one ?_))
    | refine wk_seq ?_ | refine wk_region ?_ | refine wo_nil ?_ | refine wk_ret ?_ | refine wk_nil ?_ | refine wo_dst rfl (opR_pure ?_) | refine wo_nodst (opR_pure ?_)
    | refine give_ret ?_ | refine give_end ?_)
  exact ⟨rfl, by (repeat (first | exact Gr.refl _ | assumption | (refine Gr.trans ?_ (by assumption)) | refine Gr.set ?_ (by first | exact Nat.le_refl _ | omega | (simp only [next_new, next_set]; omega)) _ | refine Gr.new ?_ _))⟩
theorem digs_nil : digs [] := fun x hx => (nomatch hx)
theorem bs82_2 (x y : Int) : buildSliceA Tryz.prog 82 2 [(0, .int .i64 x), (1, .int .i64 y)] = some (.cells [.int .i64 x, .int .i64 y] 24 true, fun b => .slice (some ⟨b, 0, none⟩) 2 (EX + 2)) := by kernel_rfl
attribute [push_cast] bs82_2
set_option maxRecDepth 100000 in
set_option maxHeartbeats 8000000 in
theorem or_w (x y : Int) (b c : Nat) (h : AHeap) (hb : h.get b = some (.cells [.int .i64 x, .int .i64 y] 24 true)) :
    Wc pr (.func 74) [.slice (some ⟨b, 0, none⟩) 2 c] h fun r h' => r = .int .i64 (if x ≠ 0 then x else y) ∧ h = h' := by
  have a0 : at? [Value.int .i64 x, .int .i64 y] 0 = some (.int .i64 x) := rfl
  have a1 : at? [Value.int .i64 x, .int .i64 y] 1 = some (.int .i64 y) := rfl
  refine wc_func Tryz.func74 rfl rfl rfl rfl ?_
  generalize [Value.int .i64 x, .int .i64 y] = C at *
  by_cases hx : x = 0
  · rw [if_neg (fun h => h hx)]
    by_cases hy : y = 0
    · repeat' (first
    | ((with_reducible first | refine optP_id ?_ | refine condP_id ?_ | refine resP_id ?_); conv => { arg 1; simp (disch := first | assumption | omega) only [push_cast, ↓reduceIte, reduceIte, Nat.reduceEqDiff, Nat.reduceAdd, Nat.reduceSub, Nat.reduceMul, Nat.reduceBEq, Int.reduceNeg, hb, a0, a1, Nat.mul_one] }; first | ((with_reducible refine optP_id ?_); refine optP_some ?_) | ((with_reducible refine condP_id ?_); first | refine qcy ?_ | refine qcx ?_ | refine qco ?_ | refine condP_decn (fun hc => ?_) (fun hc => ?_) | refine condP_dec (fun hc => ?_) (fun hc => ?_) | refine qct ?_ | refine qcf ?_ | refine condP_bool (fun hc => ?_) (fun hc => ?_)) | ((with_reducible refine resP_id ?_); refine resP_one ?_))
    | refine wk_seq ?_ | refine wk_region ?_ | refine wk_block ?_ | refine wk_inBlock ?_ | refine wk_skip ?_ | refine wo_nil ?_ | refine wk_exit ?_ | refine exitK_code ?_ | refine exitK_hit ?_ | refine exitK_miss rfl ?_ | refine exitK_inLoop ?_ | refine wk_cond ?_ | refine wk_ret ?_ | refine wk_nil ?_ | refine wo_dst rfl (opR_pure ?_) | refine wo_nodst (opR_pure ?_)
    | (refine wk_toLoop ?_)
    | (refine wk_inLoop ?_)
    | refine give_ret ?_ | refine give_end ?_)
      exact ⟨by rw [hy], rfl⟩
    · repeat' (first
    | ((with_reducible first | refine optP_id ?_ | refine condP_id ?_ | refine resP_id ?_); conv => { arg 1; simp (disch := first | assumption | omega) only [push_cast, ↓reduceIte, reduceIte, Nat.reduceEqDiff, Nat.reduceAdd, Nat.reduceSub, Nat.reduceMul, Nat.reduceBEq, Int.reduceNeg, hb, a0, a1, Nat.mul_one] }; first | ((with_reducible refine optP_id ?_); refine optP_some ?_) | ((with_reducible refine condP_id ?_); first | refine qcy ?_ | refine qcx ?_ | refine qco ?_ | refine condP_decn (fun hc => ?_) (fun hc => ?_) | refine condP_dec (fun hc => ?_) (fun hc => ?_) | refine qct ?_ | refine qcf ?_ | refine condP_bool (fun hc => ?_) (fun hc => ?_)) | ((with_reducible refine resP_id ?_); refine resP_one ?_))
    | refine wk_seq ?_ | refine wk_region ?_ | refine wk_block ?_ | refine wk_inBlock ?_ | refine wk_skip ?_ | refine wo_nil ?_ | refine wk_exit ?_ | refine exitK_code ?_ | refine exitK_hit ?_ | refine exitK_miss rfl ?_ | refine exitK_inLoop ?_ | refine wk_cond ?_ | refine wk_ret ?_ | refine wk_nil ?_ | refine wo_dst rfl (opR_pure ?_) | refine wo_nodst (opR_pure ?_)
    | (refine wk_toLoop ?_)
    | (refine wk_inLoop ?_)
    | refine give_ret ?_ | refine give_end ?_)
      exact ⟨rfl, rfl⟩
  · rw [if_pos hx]
    repeat' (first
    | ((with_reducible first | refine optP_id ?_ | refine condP_id ?_ | refine resP_id ?_); conv => { arg 1; simp (disch := first | assumption | omega) only [push_cast, ↓reduceIte, reduceIte, Nat.reduceEqDiff, Nat.reduceAdd, Nat.reduceSub, Nat.reduceMul, Nat.reduceBEq, Int.reduceNeg, hb, a0, a1, Nat.mul_one] }; first | ((with_reducible refine optP_id ?_); refine optP_some ?_) | ((with_reducible refine condP_id ?_); first | refine qcy ?_ | refine qcx ?_ | refine qco ?_ | refine condP_decn (fun hc => ?_) (fun hc => ?_) | refine condP_dec (fun hc => ?_) (fun hc => ?_) | refine qct ?_ | refine qcf ?_ | refine condP_bool (fun hc => ?_) (fun hc => ?_)) | ((with_reducible refine resP_id ?_); refine resP_one ?_))
    | refine wk_seq ?_ | refine wk_region ?_ | refine wk_block ?_ | refine wk_inBlock ?_ | refine wk_skip ?_ | refine wo_nil ?_ | refine wk_exit ?_ | refine exitK_code ?_ | refine exitK_hit ?_ | refine exitK_miss rfl ?_ | refine exitK_inLoop ?_ | refine wk_cond ?_ | refine wk_ret ?_ | refine wk_nil ?_ | refine wo_dst rfl (opR_pure ?_) | refine wo_nodst (opR_pure ?_)
    | (refine wk_toLoop ?_)
    | (refine wk_inLoop ?_)
    | refine give_ret ?_ | refine give_end ?_)
    exact ⟨rfl, rfl⟩
end Go.Proofs.YtcfohcpcepeolaaGreatDoor
