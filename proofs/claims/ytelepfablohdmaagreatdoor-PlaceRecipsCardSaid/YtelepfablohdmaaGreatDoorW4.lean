/- Slices: lengths, elements, what is appended. -/
import Derived.Test.YtelepfablohdmaaGreatDoorW3
set_option linter.unusedSimpArgs false
set_option linter.unusedVariables false
namespace Go.Ev
variable {P : Program} {E : Loc} {h : AHeap}

def lenS (d : Option TypeDesc) (n : Nat) : Option Value :=
  match d with
  | some (.slice _) => some (goI n)
  | _ => none
theorem lenS_some (e : TypeId) (n : Nat) : lenS (some (.slice e)) n = some (.int .i64 (n : Int)) := rfl
theorem len_slice (t : TypeId) (ts : List TypeId) (a : Option Addr) (n c : Nat) (vs : List Value) (e : TypeId) (hu : P.underlying t = some (.slice e)) : builtinOp P h .len (t :: ts) (.slice a n c :: vs) = some (.int .i64 (n : Int), h) := by
  show pv h (lenV P t (.slice a n c)) = _
  unfold lenV
  rw [hu]
  rfl
theorem builtin_append (t u : TypeId) (ts : List TypeId) (s x : Value) (vs : List Value) : builtinOp P h .append (t :: u :: ts) (s :: x :: vs) = appendOp P h t u s x := rfl
theorem builtin_copy (t u : TypeId) (ts : List TypeId) (d s : Value) (vs : List Value) : builtinOp P h .copy (t :: u :: ts) (d :: s :: vs) = copyOp P h t d s := rfl

theorem goI_eq (n : Nat) : goI n = .int .i64 (n : Int) := rfl
theorem sliceTo_eq (b n : Nat) : sliceTo b n = .slice (some ⟨b, 0, none⟩) n n := rfl
/-- is a slice nil? -/
def nilK (d : Option TypeDesc) (b : Bool) : Option Value :=
  match d with
  | some (.slice _) => some (.bool b)
  | _ => none
theorem nilK_some (e : TypeId) (b : Bool) : nilK (some (.slice e)) b = some (.bool b) := rfl
theorem bin_eql_nil (t : TypeId) (a : Option Addr) (n c : Nat) : bin P .eql t (.slice a n c) (.slice none 0 0) = nilK (P.underlying t) a.isNone := by
  show (valEq P t (.slice a n c) (.slice none 0 0)).map Value.bool = _
  unfold valEq nilK
  cases P.underlying t with
  | none => rfl
  | some d => cases d <;> cases a <;> rfl
theorem bin_neq_nil (t : TypeId) (a : Option Addr) (n c : Nat) : bin P .neq t (.slice a n c) (.slice none 0 0) = nilK (P.underlying t) (!a.isNone) := by
  show ((valEq P t (.slice a n c) (.slice none 0 0)).map fun b => Value.bool (!b)) = _
  unfold valEq nilK
  cases P.underlying t with
  | none => rfl
  | some d => cases d <;> cases a <;> rfl

/-! ### lists of cells -/
theorem at_eq (c : List Value) (i : Nat) : at? c i = c[i]? := by
  have := nth_eq c i
  exact this
theorem takeN_len : ∀ (n : Nat) (l : List Value), n ≤ l.length → takeN n l = some (l.take n)
  | 0, l, _ => rfl
  | n + 1, [], h => absurd h (Nat.not_succ_le_zero n)
  | n + 1, x :: l, h => by
    show cons? x (takeN n l) = _
    rw [takeN_len n l (Nat.le_of_succ_le_succ h)]
    rfl
theorem cut_len {c : List Value} {off n : Nat} (h : off + n ≤ c.length) : cut c off n = some ((c.drop off).take n) := by
  show takeN n (dropN off c) = _
  rw [dropN_eq, takeN_len n _ (by rw [List.length_drop]; omega)]
theorem over_one : ∀ (c : List Value) (i : Nat) (v : Value), i < c.length → over c i [v] = some (c.set i v)
  | [], i, v, h => absurd h (Nat.not_lt_zero i)
  | x :: c, 0, v, _ => rfl
  | x :: c, i + 1, v, h => by
    show cons? x (over c i [v]) = _
    rw [over_one c i v (Nat.lt_of_succ_lt_succ h)]
    rfl

/-- numbers, a cell each -/
def ints (k : IntKind) (l : List Int) : List Value := l.map (Value.int k)
theorem ints_length (k : IntKind) (l : List Int) : (ints k l).length = l.length := List.length_map _
theorem ints_flat (k : IntKind) : ∀ l : List Int, allFlat (ints k l) = true
  | [] => rfl
  | x :: l => by
    show allFlat (.int k x :: ints k l) = true
    rw [allFlat_int]
    exact ints_flat k l
theorem ints_at (k : IntKind) {l : List Int} {i : Nat} (h : i < l.length) : at? (ints k l) i = some (.int k l[i]) := by
  rw [at_eq]; simp [ints, h]
theorem ints_set (k : IntKind) (l : List Int) (i : Nat) (x : Int) : (ints k l).set i (.int k x) = ints k (l.set i x) := by
  simp [ints, List.map_set]
theorem ints_over (k : IntKind) {l : List Int} {i : Nat} (x : Int) (h : i < l.length) : over (ints k l) i [.int k x] = some (ints k (l.set i x)) := by
  rw [over_one _ _ _ (by rw [ints_length]; exact h), ints_set]
theorem ints_cut (k : IntKind) (l : List Int) : cut (ints k l) 0 l.length = some (ints k l) := by
  rw [cut_len (by rw [ints_length]; omega), List.drop_zero, List.take_of_length_le (by rw [ints_length]; omega)]

/-! ### append -/
theorem appendS_eq {elem size bytes n c m : Nat} {base : Option Addr} {x : Value} {new : List Value} (hm : srcLen x = some m) (hs : srcCells h size m x = some new) (hf : allFlat new = true) : appendS h elem size bytes base n c x = appendIn h elem size bytes base n c (n + m) new := by
  unfold appendS
  rw [hm]
  dsimp only
  rw [hs]
  dsimp only
  rw [hf]
  rfl
theorem src_at {size b off m c e : Nat} {all cs : List Value} {rw' : Bool} (hg : h.get b = some (.cells all e rw')) (hc : cut all off (m * size) = some cs) : srcCells h size m (.slice (some ⟨b, off, none⟩) m c) = some cs := by
  show cond (Nat.beq (m * size) 0) (some []) (match (none : Option Nat), h.get b with
    | none, some (.cells c _ _) => cut c off (m * size)
    | _, _ => none) = _
  rw [hg]
  cases hz : Nat.beq (m * size) 0 with
  | true =>
    have : m * size = 0 := Nat.eq_of_beq_eq_true hz
    rw [this] at hc
    exact hc
  | false => exact hc
theorem ble_no {a b : Nat} (h : b < a) : Nat.ble a b = false := by
  cases hb : Nat.ble a b with
  | false => rfl
  | true => have := Nat.le_of_ble_eq_true hb; omega
theorem ble_yes {a b : Nat} (h : a ≤ b) : Nat.ble a b = true := by rw [Nat.ble_eq]; exact h
theorem capLo_small {c : Nat} (h : c < EX) : capLo c = c ∧ isEx c = false := by
  unfold capLo isEx
  rw [ble_no h]
  exact ⟨rfl, rfl⟩
attribute [push_cast] sliceTo_eq goI_eq Option.isNone_some Option.isNone_none lenS_some len_slice builtin_append builtin_copy nilK_some bin_eql_nil bin_neq_nil ints_at ints_over ints_length
end Go.Ev
