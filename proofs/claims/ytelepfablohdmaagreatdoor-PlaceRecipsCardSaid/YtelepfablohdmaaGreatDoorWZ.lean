/- One element of any cells is appended. -/
import Derived.Test.YtelepfablohdmaaGreatDoorW6
set_option linter.unusedSimpArgs false
set_option linter.unusedVariables false
/- Strings: bytes, equality. -/
namespace Go.Ev
variable {P : Program} {E : Loc} {h : AHeap}
theorem str_eql (t : TypeId) (a b : ByteArray) : bin P .eql t (.string a) (.string b) = some (.bool (decide (a = b))) := by
  show some (Value.bool (bytesEq a.data.toList b.data.toList)) = _
  rw [bytesEq_dec]
theorem str_neq (t : TypeId) (a b : ByteArray) : bin P .neq t (.string a) (.string b) = some (.bool (decide (¬ a = b))) := by
  show some (Value.bool (!bytesEq a.data.toList b.data.toList)) = _
  rw [bytesEq_dec, not_dec]
/-- byte i of a string -/
def byteAt (s : ByteArray) (i : Nat) : Int := ((s.data.toList[i]?.getD 0).toNat : Int)
def strIx (d : Option TypeDesc) (s : ByteArray) (i : Option Nat) : Option Value :=
  match d, i with
  | some .string, some i => if i < s.size then some (.int .u8 (byteAt s i)) else none
  | _, _ => none
theorem strIx_some (s : ByteArray) (i : Nat) (hi : i < s.size) : strIx (some .string) s (some i) = some (.int .u8 (byteAt s i)) := if_pos hi
theorem index_str (t : TypeId) (s : ByteArray) (ix : Value) : indexV P t (.string s) ix = strIx (P.underlying t) s (natOf ix) := by
  unfold indexV strIx
  cases natOf ix with
  | none => cases P.underlying t with
    | none => rfl
    | some d => cases d <;> rfl
  | some i =>
    dsimp only
    cases P.underlying t with
    | none => rfl
    | some d =>
      cases d with
      | string =>
        dsimp only
        rw [at?_eq]
        have hsz : s.size = s.data.toList.length := by rw [Array.length_toList]; rfl
        by_cases hi : i < s.size
        · rw [if_pos hi, List.getElem?_eq_getElem (by omega)]
          unfold byteAt
          rw [List.getElem?_eq_getElem (by omega)]
          rfl
        · rw [if_neg hi, List.getElem?_eq_none (by omega)]
      | _ => rfl
attribute [push_cast] str_eql str_neq index_str strIx_some
end Go.Ev
/- Parts of slices. -/
namespace Go.Ev
variable {P : Program} {E : Loc} {h : AHeap}
theorem evO_n (e : Operand → Value) : evO e none = none := rfl
theorem evO_s (e : Operand → Value) (x : Operand) : evO e (some x) = some (e x) := rfl
attribute [push_cast] evO_n evO_s
theorem bounds_to {c n k : Nat} (hk : k ≤ c) : boundsOf c n none (some (.int .i64 (k : Int))) none = some (0, k, c) := by
  show cond (Nat.ble 0 k && Nat.ble k c && Nat.ble c c && (!false || true)) (some (0, k, c)) none = _
  rw [ble_yes (Nat.le_refl c), ble_yes (Nat.zero_le k), ble_yes hk]
  rfl
theorem bounds_from {c n k : Nat} (hk : k ≤ n) (hn : n ≤ c) : boundsOf c n (some (.int .i64 (k : Int))) none none = some (k, n, c) := by
  show cond (Nat.ble k n && Nat.ble n c && Nat.ble c c && (!false || false)) (some (k, n, c)) none = _
  rw [ble_yes (Nat.le_refl c), ble_yes hk, ble_yes hn]
  rfl
section
variable {α : Type} {enc : α → List Value} {k e : Nat}
/-- the first elements -/
theorem slice_to {v : Value} {l : List α} (hv : SlIn enc k e h v l) {j : Nat} (hj : j ≤ l.length) : ∃ v', (∀ H, sliceSl H e k v none (some (.int .i64 (j : Int))) none = some (v', H)) ∧ SlIn enc k e h v' (l.take j) := by
  obtain ⟨a, c, rfl, hc, hv⟩ := hv
  have hb := bounds_to (c := capLo c) (n := l.length) (k := j) (by omega)
  have hlen : (l.take j).length = j := by rw [List.length_take]; omega
  cases a with
  | none =>
    have hl : l = [] := Classical.byContradiction fun hne => by obtain ⟨b, off, all, rw', h1, _⟩ := hv hne; cases h1
    subst hl
    have hj0 : j = 0 := Nat.le_zero.1 hj
    subst hj0
    exact ⟨.slice none 0 0, fun H => by unfold sliceSl; dsimp only; rw [hb]; rfl, none, 0, rfl, Nat.zero_le _, fun h => absurd rfl h⟩
  | some a =>
    obtain ⟨b, off, sp⟩ := a
    cases sp with
    | some sp =>
      have hl : l = [] := Classical.byContradiction fun hne => by obtain ⟨b, off, all, rw', h1, _⟩ := hv hne; cases h1
      subst hl
      have hj0 : j = 0 := Nat.le_zero.1 hj
      subst hj0
      exact ⟨.slice (some junk) 0 0, fun H => by unfold sliceSl; dsimp only; rw [hb]; rfl, some junk, 0, rfl, Nat.zero_le _, fun h => absurd rfl h⟩
    | none =>
      refine ⟨.slice (some ⟨b, off, none⟩) j c, fun H => by unfold sliceSl; dsimp only; rw [hb]; rfl, some ⟨b, off, none⟩, c, by rw [hlen], by rw [hlen]; omega, fun hne => ?_⟩
      have hl : l ≠ [] := fun h0 => hne (by rw [h0]; simp)
      obtain ⟨b', off', all, rw', h1, h2, h3, h4⟩ := hv hl
      refine ⟨b', off', all, rw', h1, h2, h3, fun i hi => ?_⟩
      rw [hlen] at hi
      rw [h4 i (by omega), List.getElem_take]
end
end Go.Ev
/- Lists that a function makes by appends. -/
namespace Go.Ev
section
theorem takeN_app : ∀ (a b : Nat) (l x y : List Value), takeN a l = some x → takeN b (l.drop a) = some y → takeN (a + b) l = some (x ++ y)
  | 0, b, l, x, y, hx, hy => by
    have h1 : some [] = some x := hx
    cases h1
    rw [Nat.zero_add]; exact hy
  | a + 1, b, [], x, y, hx, hy => by
    have h1 : (none : Option (List Value)) = some x := hx
    cases h1
  | a + 1, b, v :: l, x, y, hx, hy => by
    have h1 : cons? v (takeN a l) = some x := hx
    cases ht : takeN a l with
    | none => rw [ht] at h1; cases h1
    | some x' =>
      rw [ht] at h1
      have h2 : some (v :: x') = some x := h1
      cases h2
      have := takeN_app a b l x' y ht hy
      rw [show a + 1 + b = (a + b) + 1 by omega]
      show cons? v (takeN (a + b) l) = _
      rw [this]
      rfl
theorem cut_app {c x y : List Value} {off a b : Nat} (hx : cut c off a = some x) (hy : cut c (off + a) b = some y) : cut c off (a + b) = some (x ++ y) := by
  have h1 : takeN a (dropN off c) = some x := hx
  have h2 : takeN b (dropN (off + a) c) = some y := hy
  show takeN (a + b) (dropN off c) = _
  rw [dropN_eq] at h1 h2 ⊢
  exact takeN_app _ _ _ _ _ h1 (by rw [List.drop_drop]; exact h2)
theorem src_zero (h : AHeap) (k : Nat) (a : Option Addr) (c : Nat) : srcCells h k 0 (.slice a 0 c) = some [] := by
  cases a with
  | none => rfl
  | some a =>
    show cond (Nat.beq (0 * k) 0) (some []) _ = _
    rw [Nat.zero_mul]; rfl
variable {α : Type} {enc : α → List Value} {k e bytes : Nat}
theorem cut_many {all : List Value} (hk : ∀ x, (enc x).length = k) : ∀ {m : List α} {off : Nat}, (∀ i (hi : i < m.length), cut all (off + i * k) k = some (enc m[i])) → cut all off (m.length * k) = some (flatE enc m)
  | [], off, h => by rw [List.length_nil, Nat.zero_mul]; rfl
  | x :: m, off, h => by
    have h0 := h 0 (by simp)
    rw [Nat.zero_mul, Nat.add_zero] at h0
    have := cut_many hk (m := m) (off := off + k) fun i hi => by
      have := h (i + 1) (by simpa using hi)
      rw [show off + k + i * k = off + (i + 1) * k by rw [Nat.succ_mul]; omega]
      exact this
    rw [List.length_cons, Nat.succ_mul, Nat.add_comm, flatE_cons]
    exact cut_app h0 this
/-- where a list's block lies -/
def ownB (l : List α) (b : Nat) : Option Addr := match l with | [] => none | _ :: _ => some ⟨b, 0, none⟩
theorem ownB_nil (b : Nat) : ownB ([] : List α) b = none := rfl
theorem ownB_ne {l : List α} {b : Nat} (h : l ≠ []) : ownB l b = some ⟨b, 0, none⟩ := by cases l with | nil => exact absurd rfl h | cons _ _ => rfl
theorem ownB_snoc (l : List α) (x : α) (b : Nat) : ownB (l ++ [x]) b = some ⟨b, 0, none⟩ := ownB_ne (by simp)
/-- the heap after an append to a slice that owns its block: the block is not to be read any more -/
noncomputable def apH (h : AHeap) (l : List α) (b : Nat) : AHeap := match l with | [] => h | _ :: _ => h.set b .dead
theorem apH_next (h : AHeap) (l : List α) (b : Nat) : (apH h l b).next = h.next := by cases l <;> rfl
theorem apH_get {h : AHeap} {l : List α} {b c : Nat} (n : l ≠ [] → c ≠ b) : (apH h l b).get c = h.get c := by
  cases l with
  | nil => rfl
  | cons x U => exact get_set_ne (fun e => n (by simp) e.symm) _
theorem len_ex {n : Nat} (h : n ≤ 1000000) : n < EX := Nat.lt_of_le_of_lt h (by unfold EX; omega)
theorem flatE_one (x : α) : flatE enc [x] = enc x := by simp [flatE]
theorem appendIn_own {h : AHeap} {l : List α} {b m : Nat} {new : List Value} (hk : ∀ x, (enc x).length = k) (hm : 0 < m) (hn : l.length ≤ 400000) (hmm : m ≤ 400000) (hb : bytes ≤ 1000) (hg : l ≠ [] → h.get b = some (.cells (flatE enc l) e true)) :
    appendIn h e k bytes (ownB l b) l.length l.length (l.length + m) new = some (.slice (some ⟨h.next, 0, none⟩) (l.length + m) (l.length + m), (apH h l b).new (.cells (flatE enc l ++ new) e true)) := by
  have hcap : capLo l.length = l.length := (capLo_small (len_ex (by omega))).1
  have hex : isEx l.length = false := (capLo_small (len_ex (by omega))).2
  have hsz : (2 * (l.length + m) + 1000) * bytes ≤ 100000000000000 := by
    have := Nat.mul_le_mul (show 2 * (l.length + m) + 1000 ≤ 1601000 by omega) hb
    omega
  unfold appendIn
  rw [hcap, ble_no (show l.length < l.length + m by omega), ble_yes hsz, ble_yes (show l.length + m ≤ 1000000000000 by omega)]
  cases hU : l with
  | nil => rfl
  | cons y V =>
    rw [← hU]
    have hne : l ≠ [] := by rw [hU]; simp
    rw [ownB_ne hne]
    show appendNew h e k ⟨b, 0, none⟩ l.length l.length new (l.length + m) = _
    unfold appendNew
    rw [hg hne]
    have hcut : cut (flatE enc l) 0 (l.length * k) = some (flatE enc l) := by
      have hl := flatE_length hk l
      rw [← hl, cut_len (by omega), List.drop_zero, List.take_of_length_le (by omega)]
    dsimp only
    rw [hcut]
    dsimp only
    rw [hex]
    have : apH h l b = h.set b .dead := by rw [hU]; rfl
    rw [this, Nat.beq_refl]
    rfl
/-- one element is appended -/
theorem append_one {h : AHeap} {l : List α} {b bn e' : Nat} {x : α} {rw' : Bool} (hk : ∀ x, (enc x).length = k) (hf : allFlat (enc x) = true) (hn : l.length ≤ 300000) (hb : bytes ≤ 1000) (hg : l ≠ [] → h.get b = some (.cells (flatE enc l) e true)) (hx : h.get bn = some (.cells (enc x) e' rw')) (c : Nat) :
    appendS h e k bytes (ownB l b) l.length l.length (.slice (some ⟨bn, 0, none⟩) 1 c) = some (.slice (some ⟨h.next, 0, none⟩) (l.length + 1) (l.length + 1), (apH h l b).new (.cells (flatE enc (l ++ [x])) e true)) := by
  have hc : cut (enc x) 0 (1 * k) = some (enc x) := by
    have hl := hk x
    rw [Nat.one_mul, ← hl, cut_len (by omega), List.drop_zero, List.take_of_length_le (by omega)]
  rw [appendS_eq (m := 1) (new := enc x) rfl (src_at hx hc) hf, appendIn_own hk (by omega) (by omega) (by omega) hb hg, flatE_append, flatE_one]
theorem optP_one {h : AHeap} {l : List α} {b bn e' c : Nat} {x : α} {rw' : Bool} {Q : Value → AHeap → Prop} (hk : ∀ x, (enc x).length = k) (hf : ∀ x, allFlat (enc x) = true) (hn : l.length ≤ 300000) (hb : bytes ≤ 1000) (hg : l ≠ [] → h.get b = some (.cells (flatE enc l) e true)) (hx : h.get bn = some (.cells (enc x) e' rw'))
    (q : ∀ H, H.next = h.next + 1 → H.get h.next = some (.cells (flatE enc (l ++ [x])) e true) → (∀ c, c < h.next → (l ≠ [] → c ≠ b) → H.get c = h.get c) → Q (.slice (ownB (l ++ [x]) h.next) (l ++ [x]).length (l ++ [x]).length) H) :
    OptP (appendS h e k bytes (ownB l b) l.length l.length (.slice (some ⟨bn, 0, none⟩) 1 c)) Q := by
  rw [append_one hk (hf x) hn hb hg hx c]
  refine optP_some ?_
  have := q ((apH h l b).new (.cells (flatE enc (l ++ [x])) e true)) (by rw [next_new, apH_next]) (by rw [get_new, apH_next, if_pos rfl]) fun c hc hne => by rw [get_new, apH_next, if_neg (by omega), apH_get hne]
  rw [ownB_snoc, List.length_append] at this
  exact this
/-- a list that is made is a slice to read -/
theorem own_in {h : AHeap} {l : List α} {b c : Nat} (hk : ∀ x, (enc x).length = k) (hc : l.length ≤ capLo c) (hb : l ≠ [] → b < h.next) (hg : l ≠ [] → ∃ rw', h.get b = some (.cells (flatE enc l) e rw')) : SlIn enc k e h (.slice (ownB l b) l.length c) l := by
  refine ⟨_, c, rfl, hc, fun hne => ?_⟩
  obtain ⟨rw', hg⟩ := hg hne
  exact ⟨b, 0, _, rw', ownB_ne hne, hb hne, hg, fun i hi => by rw [Nat.zero_add]; exact flatE_cut hk l hi⟩
end
end Go.Ev
/- Range over functions: the loop's record, seen from outside. -/
namespace Go.Ev
/-- what may be done with a loop's record -/
structure Lp (F : Fx) (E : Loc) (ps : Array Tmp) (assign body : Code) (l : Nat) (L : AHeap → LoopState → Option Code → Prop) : Prop where
  of : ∀ {H H' : AHeap} {st : LoopState} {pend : Option Code}, L H st pend → H'.get l = H.get l → L H' st pend
  yield : ∀ {args : List Value} {H : AHeap} {Q : Value → AHeap → Prop} {st : LoopState} {pend : Option Code}, L H st pend → Nat.beq args.length ps.toList.length = true → slotsOk F.size ps.toList = true →
    Wk (F.inRound l ps) (putLs ps.toList args E) [] H [.code assign, .beginRound, .code body] (fun _ _ h' todo => RoundP l todo h' Q) → Wc F.p (.yield l) args H Q
  start : ∀ {F' : Fx} {E' : Loc} {ds : List Deferred} {H : AHeap} {k : List Item} {Q : Loc → List Deferred → AHeap → List Item → Prop} {pend : Option Code}, F'.round = some l → L H .ready pend →
    (∀ H', H'.next = H.next → (∀ b, b ≠ l → H'.get b = H.get b) → L H' .busy pend → Wk F' E' ds H' k Q) → Wk F' E' ds H (.beginRound :: k) Q
  next : ∀ {H : AHeap} {Q : Value → AHeap → Prop} {st : LoopState} {pend : Option Code}, L H st pend → (∀ H', H'.next = H.next → (∀ b, b ≠ l → H'.get b = H.get b) → L H' .ready none → Q (.bool true) H') → RoundP l [] H Q
  out : ∀ {H : AHeap} {Q : Value → AHeap → Prop} {st : LoopState} {pend : Option Code} {c : Code} {k : List Item}, L H st pend → (∀ H', H'.next = H.next → (∀ b, b ≠ l → H'.get b = H.get b) → L H' .done (some c) → Q (.bool false) H') → RoundP l (.code c :: k) H Q

theorem lp_of (F : Fx) (E : Loc) (ps : Array Tmp) (assign body : Code) (d l : Nat) : Lp F E ps assign body l fun H st pend => LoopAt F E ps assign body d H l st pend where
  of a e := LoopAt.of a e
  yield a h1 h2 w := wc_yield rfl a h1 h2 w
  start hr a w := wk_begin hr a w
  next a q := round_next a q
  out a q := round_out a q

theorem wk_rangeL {F : Fx} {E : Loc} {ds : List Deferred} {h : AHeap} {k : List Item} {Q : Loc → List Deferred → AHeap → List Item → Prop} {f : Operand} {ps : Array Tmp} {assign body : Code} (hr : F.round = none)
    (w : ∀ (L : AHeap → LoopState → Option Code → Prop) (H : AHeap), Lp F E ps assign body (h.next + 1) L → H.next = h.next + 2 → (∀ b, b < h.next → H.get b = h.get b) → H.get h.next = some (.deferred (some [])) → L H .ready none →
      CallP F.p (evE E f) [.func (.yield (h.next + 1)) #[] #[]] H fun _ H' => ∃ st pend, st ≠ .busy ∧ L H' st pend ∧
        ∀ H'', H''.next = H'.next → (∀ b, b ≠ h.next + 1 → H''.get b = H'.get b) → Wk F E ({ target := .collected h.next, args := #[] } :: ds) H'' (todoOf pend k) Q) :
    Wk F E ds h (.code (.rangeFunc f ps assign body) :: k) Q :=
  wk_range hr fun H h1 h2 h3 h4 => w _ H (lp_of F E ps assign body h.next (h.next + 1)) h1 h2 h3 h4
theorem putLs2 (t u : Tmp) (a b : Value) (E : Loc) : putLs #[t, u].toList [a, b] E = .cons u b (.cons t a E) := rfl
theorem todo_none (k : List Item) : todoOf none k = k := rfl
end Go.Ev
/- One element more in a list that has some. -/
namespace Go.Ev
section
variable {α : Type} {enc : α → List Value} {k e bytes : Nat}
end
end Go.Ev
/- Calls, with what is called and its arguments side by side. -/
namespace Go.Ev
/-- a call: the function's value and the arguments in one place -/
def CallT (fa : Value × List Value) (p : Pr) (h : AHeap) (Q : Value → AHeap → Prop) : Prop := CallP p fa.1 fa.2 h Q
theorem callT_of {p : Pr} {f : Value} {args : List Value} {h : AHeap} {Q : Value → AHeap → Prop} (c : CallT (f, args) p h Q) : CallP p f args h Q := c
theorem callT_to {p : Pr} {f : Value} {args : List Value} {h : AHeap} {Q : Value → AHeap → Prop} (c : CallP p f args h Q) : CallT (f, args) p h Q := c
/-- conditions that are known -/
theorem qcy {c : Prop} [Decidable c] {A B : Prop} (a : A) (hc : c := by first | assumption | exact fun hn => hn (by assumption) | omega | decide) : CondP (.bool (decide c)) A B := condP_yes hc a
theorem qcx {c : Prop} [Decidable (¬ c)] {A B : Prop} (a : B) (hc : c := by assumption) : CondP (.bool (decide (¬ c))) A B := condP_non hc a
theorem qco {c : Prop} [Decidable c] {A B : Prop} (a : B) (hc : ¬ c := by first | assumption | omega | decide) : CondP (.bool (decide c)) A B := condP_no hc a
theorem qct {b : Bool} {A B : Prop} (a : A) (hb : b = true := by first | with_reducible rfl | assumption | rfl) : CondP (.bool b) A B := condP_true hb a
theorem qcf {b : Bool} {A B : Prop} (a : B) (hb : b = false := by first | with_reducible rfl | assumption | rfl) : CondP (.bool b) A B := condP_false hb a
end Go.Ev
namespace Go.Ev
section
variable {α : Type} {enc : α → List Value} {k e bytes : Nat}
theorem optP_one1 {h : AHeap} {l : List α} {b bn e' c : Nat} {x : α} {rw' : Bool} {Q : Value → AHeap → Prop} (hk : ∀ x, (enc x).length = k) (hf : allFlat (enc x) = true) (hn : l.length ≤ 300000) (hb : bytes ≤ 1000) (hg : l ≠ [] → h.get b = some (.cells (flatE enc l) e true)) (hx : h.get bn = some (.cells (enc x) e' rw'))
    (q : ∀ H, H.next = h.next + 1 → H.get h.next = some (.cells (flatE enc (l ++ [x])) e true) → (∀ c, c < h.next → (l ≠ [] → c ≠ b) → H.get c = h.get c) → Q (.slice (ownB (l ++ [x]) h.next) (l ++ [x]).length (l ++ [x]).length) H) :
    OptP (appendS h e k bytes (ownB l b) l.length l.length (.slice (some ⟨bn, 0, none⟩) 1 c)) Q := by
  rw [append_one hk hf hn hb hg hx c]
  refine optP_some ?_
  have := q ((apH h l b).new (.cells (flatE enc (l ++ [x])) e true)) (by rw [next_new, apH_next]) (by rw [get_new, apH_next, if_pos rfl]) fun c hc hne => by rw [get_new, apH_next, if_neg (by omega), apH_get hne]
  rw [ownB_snoc, List.length_append] at this
  exact this
end
end Go.Ev
