/- The evaluator: operations that look at no memory. -/
import Derived.Test.YtelepfablohdmaaGreatDoorEv4
import Derived.IntWalk
set_option linter.unusedSimpArgs false
set_option linter.unusedVariables false
namespace Go.Ev

variable {P : Program} {ρ : Ren} {w : World}

/-- a computation gives a value that is related, and leaves the world alone -/
def GivesV (P : Program) (ρ : Ren) (w : World) (s : Sem Value) (v : Value) : Prop := ∃ v', s.run P w = .ok v' w ∧ VRel ρ v v'

/-- an operation's -/
def GivesN (P : Program) (ρ : Ren) (w : World) (s : Sem Next) (v : Value) : Prop := ∃ v', s.run P w = .ok (.value v') w ∧ VRel ρ v v'

theorem GivesV.next {s : Sem Value} {v : Value} (h : GivesV P ρ w s v) : GivesN P ρ w (do pure (.value (← s))) v := by
  obtain ⟨v', h1, h2⟩ := h
  exact ⟨v', by simp [h1], h2⟩

theorem run_info {t : TypeId} {i : TypeInfo} (h : P.info? t = some i) (w : World) : (typeInfo t).run P w = .ok i w := by
  simp [typeInfo, h]
theorem run_under {t : TypeId} {d : TypeDesc} (h : P.underlying t = some d) (w : World) : (underlying t).run P w = .ok d w := by
  simp [underlying, h]
theorem run_size {t : TypeId} {i : TypeInfo} (h : P.info? t = some i) (w : World) : (sizeOf t).run P w = .ok i.size w := by
  simp [sizeOf, run_info h]
theorem run_agg? {t : TypeId} {d : TypeDesc} (h : P.underlying t = some d) (w : World) : (isAgg t).run P w = .ok (aggD d) w := by
  unfold isAgg
  simp only [Sem.run_bind, run_under h, Result.andThen_ok]
  cases d <;> rfl
theorem run_zero {t : TypeId} {i : TypeInfo} {z : Value} (h : P.info? t = some i) (hz : i.zero = some z) (w : World) : (zeroValue t).run P w = .ok z w := by
  simp [zeroValue, run_info h, hz]

theorem cond_some {α : Type} {b : Bool} {x : Option α} {v : α} (h : cond b x none = some v) : b = true ∧ x = some v := by
  cases b <;> simp_all

/-! ### lists -/
theorem dropN_nil {α : Type} : ∀ n : Nat, dropN n ([] : List α) = []
  | 0 => rfl
  | _ + 1 => rfl
theorem dropN_cons {α : Type} (n : Nat) (a : α) (l : List α) : dropN (n + 1) (a :: l) = dropN n l := rfl
theorem dropN_eq {α : Type} : ∀ (n : Nat) (l : List α), dropN n l = l.drop n
  | 0, _ => rfl
  | n + 1, [] => by rw [dropN_nil]; simp
  | n + 1, a :: l => by rw [dropN_cons, dropN_eq n l]; simp
theorem first?_eq {α : Type} (l : List α) : first? l = l[0]? := by cases l <;> rfl
theorem at?_eq {α : Type} (l : List α) (n : Nat) : at? l n = l[n]? := by
  rw [at?, first?_eq, dropN_eq, List.getElem?_drop, Nat.add_zero]
theorem takeN_eq : ∀ (n : Nat) (l r : List Value), takeN n l = some r → l.take n = r ∧ r.length = n
  | 0, l, r, h => by
    have : some [] = some r := h
    cases this; exact ⟨by simp, rfl⟩
  | n + 1, [], r, h => by
    have : (none : Option (List Value)) = some r := h
    cases this
  | n + 1, a :: l, r, h => by
    have h' : cons? a (takeN n l) = some r := h
    cases ht : takeN n l with
    | none => rw [ht] at h'; cases h'
    | some r' =>
      rw [ht] at h'; cases h'
      obtain ⟨h1, h2⟩ := takeN_eq n l r' ht
      exact ⟨by simp [h1], by simp [h2]⟩
theorem cut_eq {c : List Value} {off n : Nat} {r : List Value} (h : cut c off n = some r) : (c.drop off).take n = r ∧ r.length = n ∧ off + n ≤ c.length ∨ n = 0 ∧ r = [] := by
  rw [cut, dropN_eq] at h
  obtain ⟨h1, h2⟩ := takeN_eq _ _ _ h
  by_cases hn : n = 0
  · subst hn; exact .inr ⟨rfl, by simpa using h2⟩
  · have hl := congrArg List.length h1
    rw [h2] at hl
    simp at hl
    exact .inl ⟨h1, h2, by omega⟩
theorem cut_get {c : List Value} {off n : Nat} {r : List Value} (h : cut c off n = some r) : r.length = n ∧ ∀ i v, r[i]? = some v → i < n ∧ c[off + i]? = some v := by
  rcases cut_eq h with ⟨h1, h2, _⟩ | ⟨h1, h2⟩
  · refine ⟨h2, fun i v hv => ?_⟩
    subst h1
    rw [List.getElem?_take] at hv
    split at hv
    · rename_i hi; rw [List.getElem?_drop] at hv; exact ⟨hi, hv⟩
    · cases hv
  · subst h1 h2; exact ⟨rfl, fun i v hv => by simp at hv⟩

theorem over0_get : ∀ (vs l r : List Value), over0 vs l = some r → r.length = l.length ∧ vs.length ≤ l.length ∧ ∀ i, r[i]? = if i < vs.length then vs[i]? else l[i]?
  | [], l, r, h => by
    have : some l = some r := h
    cases this; exact ⟨rfl, Nat.zero_le _, fun i => by simp⟩
  | v :: vs, [], r, h => by
    have : (none : Option (List Value)) = some r := h
    cases this
  | v :: vs, a :: l, r, h => by
    have h' : cons? v (over0 vs l) = some r := h
    cases ht : over0 vs l with
    | none => rw [ht] at h'; cases h'
    | some r' =>
      rw [ht] at h'; cases h'
      obtain ⟨h1, h2, h3⟩ := over0_get vs l r' ht
      refine ⟨by simp [h1], by simp; omega, fun i => ?_⟩
      cases i with
      | zero => simp
      | succ i => simp [h3 i]
theorem over_get : ∀ (off : Nat) (l vs r : List Value), over l off vs = some r → r.length = l.length ∧ off + vs.length ≤ l.length ∧ ∀ i, r[i]? = if off ≤ i ∧ i < off + vs.length then vs[i - off]? else l[i]?
  | 0, l, vs, r, h => by
    obtain ⟨h1, h2, h3⟩ := over0_get vs l r h
    exact ⟨h1, by omega, fun i => by simpa using h3 i⟩
  | off + 1, [], vs, r, h => by
    have : (none : Option (List Value)) = some r := h
    cases this
  | off + 1, a :: l, vs, r, h => by
    have h' : cons? a (over l off vs) = some r := h
    cases ht : over l off vs with
    | none => rw [ht] at h'; cases h'
    | some r' =>
      rw [ht] at h'; cases h'
      obtain ⟨h1, h2, h3⟩ := over_get off l vs r' ht
      refine ⟨by simp [h1], by simp; omega, fun i => ?_⟩
      cases i with
      | zero => simp
      | succ i =>
        have := h3 i
        simp only [List.getElem?_cons_succ, this]
        by_cases hc : off ≤ i ∧ i < off + vs.length
        · rw [if_pos hc, if_pos (by omega), Nat.succ_sub_succ]
        · rw [if_neg hc, if_neg (by omega)]

/-! ### values -/
theorem VRel.int_inv {k : IntKind} {n : Int} {v' : Value} (h : VRel ρ (.int k n) v') : v' = .int k n := by cases h; rfl
theorem VRel.bool_inv {b : Bool} {v' : Value} (h : VRel ρ (.bool b) v') : v' = .bool b := by cases h; rfl
theorem VRel.string_inv {s : ByteArray} {v' : Value} (h : VRel ρ (.string s) v') : v' = .string s := by cases h; rfl
theorem VRel.ptr_inv {a : Addr} {v' : Value} (h : VRel ρ (.pointer (some a)) v') : ∃ a', v' = .pointer (some a') ∧ ARel ρ a a' := by cases h with | ptr h => exact ⟨_, rfl, h⟩
theorem VRel.pnil_inv {v' : Value} (h : VRel ρ (.pointer none) v') : v' = .pointer none := by cases h; rfl
theorem VRel.map_inv {r : Nat} {v' : Value} (h : VRel ρ (.map (some r)) v') : ∃ p, v' = .map (some p.block) ∧ ρ r = some p := by cases h with | map h => exact ⟨_, rfl, h⟩
theorem VRel.nilIface_inv {v' : Value} (h : VRel ρ .nilIface v') : v' = .nilIface := by cases h; rfl
theorem VRel.iface_inv {t : TypeId} {v v' : Value} (h : VRel ρ (.iface t v) v') : ∃ u, v' = .iface t u ∧ VRel ρ v u := by
  cases h with
  | iface h => exact ⟨_, rfl, h⟩
theorem VRel.mnil_inv {v' : Value} (h : VRel ρ (.map none) v') : v' = .map none := by cases h; rfl
theorem VRel.agg_inv {xs : Array Value} {v' : Value} (h : VRel ρ (.agg xs) v') : ∃ ys : Array Value, v' = .agg ys ∧ VRels ρ xs.toList ys.toList := by cases h with | agg h => exact ⟨_, rfl, h⟩
theorem VRel.tuple_inv {xs : Array Value} {v' : Value} (h : VRel ρ (.tuple xs) v') : ∃ ys : Array Value, v' = .tuple ys ∧ VRels ρ xs.toList ys.toList := by cases h with | tuple h => exact ⟨_, rfl, h⟩
theorem VRel.undef : VRel ρ undef undef := .tuple .nil

/-- one cell: the model's value is one cell, too -/
theorem VRel.flat {v v' : Value} (h : VRel ρ v v') (hf : flat v = true) : v'.oneCell' = true ∧ v'.cells = #[v'] ∧ v.cells = #[v] := by
  cases h <;> first | exact ⟨rfl, rfl, rfl⟩ | cases hf

theorem VRels.oneCell : ∀ {l l' : List Value}, VRels ρ l l' → allFlat l = true → ∀ v ∈ l', v.oneCell' = true
  | _, _, .nil, _, v, hv => by cases hv
  | _, _, .cons (v := a) (l := l) h t, hf, v, hv => by
    have hf' : Bool.rec (motive := fun _ => Bool) false (allFlat l) (Ev.flat a) = true := hf
    cases hfa : Ev.flat a with
    | false => rw [hfa] at hf'; cases hf'
    | true =>
      rw [hfa] at hf'
      rcases List.mem_cons.1 hv with e | e
      · rw [e]; exact (h.flat hfa).1
      · exact t.oneCell hf' v e

/-- the cells of a value that is no unknown one -/
theorem VRel.cells {v v' : Value} (h : VRel ρ v v') (hf : allFlat v.cells.toList = true) : VRels ρ v.cells.toList v'.cells.toList := by
  cases h with
  | top v => exact absurd hf (by simp [Value.cells, allFlat, Ev.flat])
  | agg h => exact h
  | tuple h => exact absurd hf (by simp [Value.cells, allFlat, Ev.flat])
  | bool b => exact .cons (.bool b) .nil
  | int k n => exact .cons (.int k n) .nil
  | string s => exact .cons (.string s) .nil
  | pnil => exact .cons .pnil .nil
  | ptr h => exact .cons (.ptr h) .nil
  | snil => exact .cons .snil .nil
  | sl h hc hn hp hw => exact .cons (.sl h hc hn hp hw) .nil
  | sj a c => exact .cons (.sj a c) .nil
  | mnil => exact .cons .mnil .nil
  | map h => exact .cons (.map h) .nil
  | fn hp h1 h2 => exact .cons (.fn hp h1 h2) .nil
  | yl h => exact .cons (.yl h) .nil
  | nilFunc => exact .cons .nilFunc .nil
  | nilIface => exact .cons .nilIface .nil
  | iface h => exact .cons (.iface h) .nil

theorem VRels.toArray_get {l : List Value} {l' : Array Value} (h : VRels ρ l l'.toList) {i : Nat} {v : Value} (e : l[i]? = some v) : ∃ v', l'[i]? = some v' ∧ VRel ρ v v' := by
  obtain ⟨v', h1, h2⟩ := h.get e
  exact ⟨v', by simpa using h1, h2⟩

/-- a list is related to the part of an array from off on, if each of its values is related to a cell -/
theorem VRels.of_get {cs : Array Value} {off : Nat} : ∀ {l : List Value}, (∀ i v, l[i]? = some v → ∃ v', cs[off + i]? = some v' ∧ VRel ρ v v') → VRels ρ l ((cs.toList.drop off).take l.length)
  | [], _ => by simpa using VRels.nil
  | v :: l, h => by
    obtain ⟨v', h1, h2⟩ := h 0 v rfl
    have ht := VRels.of_get (cs := cs) (off := off + 1) (l := l) fun i u hu => by
      obtain ⟨u', h3, h4⟩ := h (i + 1) u (by simpa using hu)
      exact ⟨u', by rw [show off + 1 + i = off + (i + 1) by omega]; exact h3, h4⟩
    have hd : cs.toList.drop off = v' :: cs.toList.drop (off + 1) := by
      have hlt : off < cs.toList.length := by
        rcases Nat.lt_or_ge off cs.toList.length with h' | h'
        · exact h'
        · simp only [Nat.add_zero] at h1
          rw [Array.getElem?_eq_none (by simpa using h')] at h1; cases h1
      rw [List.drop_eq_getElem_cons hlt]
      congr 1
      simp only [Nat.add_zero] at h1
      have : cs.toList[off]? = some v' := by simpa using h1
      rw [List.getElem?_eq_getElem hlt] at this
      exact Option.some.inj this
    rw [hd]
    exact .cons h2 (by simpa using ht)

/-! ### integers -/
theorem kindEq_spec {a b : IntKind} (h : kindEq a b = true) : a = b := by
  cases a <;> cases b <;> first | rfl | cases h
theorem ltI_spec (a b : Int) : ltI a b = decide (a < b) := by
  cases a with
  | ofNat m =>
    cases b with
    | ofNat n =>
      show Nat.blt m n = _
      rw [Bool.eq_iff_iff, Nat.blt_eq, decide_eq_true_eq]
      exact Int.ofNat_lt.symm
    | negSucc n => exact (decide_eq_false (by simp only [Int.ofNat_eq_natCast, Int.negSucc_eq]; omega)).symm
  | negSucc m =>
    cases b with
    | ofNat n => exact (decide_eq_true (by simp only [Int.ofNat_eq_natCast, Int.negSucc_eq]; omega)).symm
    | negSucc n =>
      show Nat.blt n m = _
      rw [Bool.eq_iff_iff, Nat.blt_eq, decide_eq_true_eq]
      simp only [Int.negSucc_eq]
      omega
theorem eqI_spec (a b : Int) : eqI a b = decide (a = b) := by
  cases a with
  | ofNat m =>
    cases b with
    | ofNat n =>
      show Nat.beq m n = _
      rw [Bool.eq_iff_iff, Nat.beq_eq, decide_eq_true_eq]
      exact Int.ofNat_inj.symm
    | negSucc n => exact (decide_eq_false (by simp only [Int.ofNat_eq_natCast, Int.negSucc_eq]; omega)).symm
  | negSucc m =>
    cases b with
    | ofNat n => exact (decide_eq_false (by simp only [Int.ofNat_eq_natCast, Int.negSucc_eq]; omega)).symm
    | negSucc n =>
      show Nat.beq m n = _
      rw [Bool.eq_iff_iff, Nat.beq_eq, decide_eq_true_eq]
      simp only [Int.negSucc_eq]
      omega
theorem blt_lt {a b : Nat} (h : Nat.blt a b = true) : a < b := Nat.blt_eq ▸ h
theorem small_wrap : ∀ {k : IntKind} {n : Int}, small k n = true → k.wrap n = n
  | .i64, .ofNat m, h => IntWalk.i64_in _ (by have := blt_lt h; simp only [Int.ofNat_eq_natCast]; omega)
  | .i64, .negSucc m, h => IntWalk.i64_in _ (by have := blt_lt h; simp only [Int.negSucc_eq]; omega)
  | .u64, .ofNat m, h => IntWalk.u64_in _ (by have := blt_lt h; simp only [Int.ofNat_eq_natCast]; omega)
  | .u8, .ofNat m, h => IntWalk.u8_in _ (by have := blt_lt h; simp only [Int.ofNat_eq_natCast]; omega)
  | .i32, .ofNat m, h => IntWalk.i32_in _ (by have := blt_lt h; simp only [Int.ofNat_eq_natCast]; omega)
  | .i32, .negSucc m, h => IntWalk.i32_in _ (by have := blt_lt h; simp only [Int.negSucc_eq]; omega)
  | .i8, .ofNat _, h => by cases h
  | .i8, .negSucc _, h => by cases h
  | .i16, .ofNat _, h => by cases h
  | .i16, .negSucc _, h => by cases h
  | .u16, .ofNat _, h => by cases h
  | .u16, .negSucc _, h => by cases h
  | .u32, .ofNat _, h => by cases h
  | .u32, .negSucc _, h => by cases h
  | .u64, .negSucc _, h => by cases h
  | .u8, .negSucc _, h => by cases h
theorem wrapF_eq (k : IntKind) (n : Int) : wrapF k n = k.wrap n := by
  unfold wrapF
  cases h : small k n with
  | true => simp [small_wrap h]
  | false => rfl
theorem isZero_spec (a : Int) : isZero a = decide (a = 0) := by
  rw [isZero, eqI_spec]
  rfl

theorem bytesEq_spec : ∀ (x y : List UInt8), bytesEq x y = (x == y)
  | [], [] => rfl
  | [], _ :: _ => rfl
  | _ :: _, [] => rfl
  | a :: x, b :: y => by
    show Bool.rec (motive := fun _ => Bool) false (bytesEq x y) (Nat.beq a.toNat b.toNat) = _
    rw [bytesEq_spec x y]
    by_cases h : a = b
    · subst h; simp
    · have hn : Nat.beq a.toNat b.toNat = false := by
        cases hb : Nat.beq a.toNat b.toNat with
        | false => rfl
        | true => exact absurd (UInt8.toNat_inj.1 (Nat.eq_of_beq_eq_true hb)) h
      rw [hn]
      simp [h]
theorem bytesLt_spec : ∀ (x y : List UInt8), bytesLt x y = Op.bytesLess x y
  | [], [] => rfl
  | [], _ :: _ => rfl
  | _ :: _, [] => rfl
  | a :: x, b :: y => by
    rw [bytesLt, Op.bytesLess, bytesLt_spec x y]
    by_cases h : a = b
    · subst h; simp
    · have hn : Nat.beq a.toNat b.toNat = false := by
        cases hb : Nat.beq a.toNat b.toNat with
        | false => rfl
        | true => exact absurd (UInt8.toNat_inj.1 (Nat.eq_of_beq_eq_true hb)) h
      rw [hn]
      have hb : (a == b) = false := by simpa using h
      have hl : Nat.blt a.toNat b.toNat = decide (a < b) := by
        rw [Bool.eq_iff_iff, Nat.blt_eq, decide_eq_true_eq, UInt8.lt_iff_toNat_lt]
      rw [hb, hl]
      simp
end Go.Ev
