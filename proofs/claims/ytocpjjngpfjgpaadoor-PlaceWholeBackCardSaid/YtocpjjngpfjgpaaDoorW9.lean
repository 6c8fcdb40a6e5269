/- Lists that a function makes by appends. -/
import Derived.Test.YtocpjjngpfjgpaaDoorW8
set_option linter.unusedSimpArgs false
set_option linter.unusedVariables false
namespace Go.Ev
section
theorem allFlat_cons (v : Value) (l : List Value) : allFlat (v :: l) = (flat v && allFlat l) := by
  show Bool.rec (motive := fun _ => Bool) false (allFlat l) (flat v) = _
  cases flat v <;> rfl
theorem takeN_app : ∀ (a b : Nat) (l x y : List Value), takeN a l = some x → takeN b (l.drop a) = some y → takeN (a + b) l = some (x ++ y)
  | 0, b, l, x, y, hx, hy => by
    have h1 : some [] = some x := hx
    cases h1
    rw [Nat.zero_add]; exact hy
  | a + 1, b, [], x, y, hx, hy => by
    have h1 : (none : Option (List Value)) = some x := hx
    cases h1
  | a + 1, b, v :: l, x, y, hx, hy => by
    have h1 : cons? v (takeN a l) = some x := hx
    cases ht : takeN a l with
    | none => rw [ht] at h1; cases h1
    | some x' =>
      rw [ht] at h1
      have h2 : some (v :: x') = some x := h1
      cases h2
      have := takeN_app a b l x' y ht hy
      rw [show a + 1 + b = (a + b) + 1 by omega]
      show cons? v (takeN (a + b) l) = _
      rw [this]
      rfl
theorem cut_app {c x y : List Value} {off a b : Nat} (hx : cut c off a = some x) (hy : cut c (off + a) b = some y) : cut c off (a + b) = some (x ++ y) := by
  have h1 : takeN a (dropN off c) = some x := hx
  have h2 : takeN b (dropN (off + a) c) = some y := hy
  show takeN (a + b) (dropN off c) = _
  rw [dropN_eq] at h1 h2 ⊢
  exact takeN_app _ _ _ _ _ h1 (by rw [List.drop_drop]; exact h2)
theorem src_zero (h : AHeap) (k : Nat) (a : Option Addr) (c : Nat) : srcCells h k 0 (.slice a 0 c) = some [] := by
  cases a with
  | none => rfl
  | some a =>
    show cond (Nat.beq (0 * k) 0) (some []) _ = _
    rw [Nat.zero_mul]; rfl
variable {α : Type} {enc : α → List Value} {k e bytes : Nat}
theorem cut_many {all : List Value} (hk : ∀ x, (enc x).length = k) : ∀ {m : List α} {off : Nat}, (∀ i (hi : i < m.length), cut all (off + i * k) k = some (enc m[i])) → cut all off (m.length * k) = some (flatE enc m)
  | [], off, h => by rw [List.length_nil, Nat.zero_mul]; rfl
  | x :: m, off, h => by
    have h0 := h 0 (by simp)
    rw [Nat.zero_mul, Nat.add_zero] at h0
    have := cut_many hk (m := m) (off := off + k) fun i hi => by
      have := h (i + 1) (by simpa using hi)
      rw [show off + k + i * k = off + (i + 1) * k by rw [Nat.succ_mul]; omega]
      exact this
    rw [List.length_cons, Nat.succ_mul, Nat.add_comm, flatE_cons]
    exact cut_app h0 this
/-- where a list's block lies -/
def ownB (l : List α) (b : Nat) : Option Addr := match l with | [] => none | _ :: _ => some ⟨b, 0, none⟩
theorem ownB_nil (b : Nat) : ownB ([] : List α) b = none := rfl
theorem ownB_ne {l : List α} {b : Nat} (h : l ≠ []) : ownB l b = some ⟨b, 0, none⟩ := by cases l with | nil => exact absurd rfl h | cons _ _ => rfl
theorem ownB_snoc (l : List α) (x : α) (b : Nat) : ownB (l ++ [x]) b = some ⟨b, 0, none⟩ := ownB_ne (by simp)
/-- the heap after an append to a slice that owns its block: the block is not to be read any more -/
noncomputable def apH (h : AHeap) (l : List α) (b : Nat) : AHeap := match l with | [] => h | _ :: _ => h.set b .dead
theorem apH_next (h : AHeap) (l : List α) (b : Nat) : (apH h l b).next = h.next := by cases l <;> rfl
theorem apH_get {h : AHeap} {l : List α} {b c : Nat} (n : l ≠ [] → c ≠ b) : (apH h l b).get c = h.get c := by
  cases l with
  | nil => rfl
  | cons x U => exact get_set_ne (fun e => n (by simp) e.symm) _
theorem apH_gr {B h : AHeap} {l : List α} {b : Nat} (g : Gr B h) (n : l ≠ [] → B.next ≤ b) : Gr B (apH h l b) := by
  cases l with
  | nil => exact g
  | cons x U => exact g.set (n (by simp)) _
theorem len_ex {n : Nat} (h : n ≤ 1000000) : n < EX := Nat.lt_of_le_of_lt h (by unfold EX; omega)
theorem flatE_one (x : α) : flatE enc [x] = enc x := by simp [flatE]
theorem appendIn_own {h : AHeap} {l : List α} {b m : Nat} {new : List Value} (hk : ∀ x, (enc x).length = k) (hm : 0 < m) (hn : l.length ≤ 400000) (hmm : m ≤ 400000) (hb : bytes ≤ 1000) (hg : l ≠ [] → h.get b = some (.cells (flatE enc l) e true)) :
    appendIn h e k bytes (ownB l b) l.length l.length (l.length + m) new = some (.slice (some ⟨h.next, 0, none⟩) (l.length + m) (l.length + m), (apH h l b).new (.cells (flatE enc l ++ new) e true)) := by
  have hcap : capLo l.length = l.length := (capLo_small (len_ex (by omega))).1
  have hex : isEx l.length = false := (capLo_small (len_ex (by omega))).2
  have hsz : (2 * (l.length + m) + 1000) * bytes ≤ 100000000000000 := by
    have := Nat.mul_le_mul (show 2 * (l.length + m) + 1000 ≤ 1601000 by omega) hb
    omega
  unfold appendIn
  rw [hcap, ble_no (show l.length < l.length + m by omega), ble_yes hsz, ble_yes (show l.length + m ≤ 1000000000000 by omega)]
  cases hU : l with
  | nil => rfl
  | cons y V =>
    rw [← hU]
    have hne : l ≠ [] := by rw [hU]; simp
    rw [ownB_ne hne]
    show appendNew h e k ⟨b, 0, none⟩ l.length l.length new (l.length + m) = _
    unfold appendNew
    rw [hg hne]
    have hcut : cut (flatE enc l) 0 (l.length * k) = some (flatE enc l) := by
      have hl := flatE_length hk l
      rw [← hl, cut_len (by omega), List.drop_zero, List.take_of_length_le (by omega)]
    dsimp only
    rw [hcut]
    dsimp only
    rw [hex]
    have : apH h l b = h.set b .dead := by rw [hU]; rfl
    rw [this, Nat.beq_refl]
    rfl
/-- one element is appended -/
theorem append_one {h : AHeap} {l : List α} {b bn e' : Nat} {x : α} {rw' : Bool} (hk : ∀ x, (enc x).length = k) (hf : allFlat (enc x) = true) (hn : l.length ≤ 300000) (hb : bytes ≤ 1000) (hg : l ≠ [] → h.get b = some (.cells (flatE enc l) e true)) (hx : h.get bn = some (.cells (enc x) e' rw')) (c : Nat) :
    appendS h e k bytes (ownB l b) l.length l.length (.slice (some ⟨bn, 0, none⟩) 1 c) = some (.slice (some ⟨h.next, 0, none⟩) (l.length + 1) (l.length + 1), (apH h l b).new (.cells (flatE enc (l ++ [x])) e true)) := by
  have hc : cut (enc x) 0 (1 * k) = some (enc x) := by
    have hl := hk x
    rw [Nat.one_mul, ← hl, cut_len (by omega), List.drop_zero, List.take_of_length_le (by omega)]
  rw [appendS_eq (m := 1) (new := enc x) rfl (src_at hx hc) hf, appendIn_own hk (by omega) (by omega) (by omega) hb hg, flatE_append, flatE_one]
/-- a whole slice is appended -/
theorem append_all {h : AHeap} {l m : List α} {b : Nat} {v : Value} (hk : ∀ x, (enc x).length = k) (hf : ∀ x, allFlat (enc x) = true) (hn : l.length ≤ 300000) (hmm : m.length ≤ 300000) (hm0 : m ≠ []) (hb : bytes ≤ 1000) (hg : l ≠ [] → h.get b = some (.cells (flatE enc l) e true)) (hv : SlIn enc k e h v m) :
    appendS h e k bytes (ownB l b) l.length l.length v = some (.slice (some ⟨h.next, 0, none⟩) (l.length + m.length) (l.length + m.length), (apH h l b).new (.cells (flatE enc (l ++ m)) e true)) := by
  obtain ⟨a, c, rfl, hc, hv⟩ := hv
  obtain ⟨b', off, all, rw', rfl, h2, h3, h4⟩ := hv hm0
  have hfl : ∀ m : List α, allFlat (flatE enc m) = true := by
    intro m
    induction m with
    | nil => rfl
    | cons x m ih =>
      rw [flatE_cons]
      have := hf x
      revert this
      generalize enc x = cs
      intro this
      induction cs with
      | nil => exact ih
      | cons v cs ihc =>
        rw [allFlat_cons] at this
        rw [List.cons_append, allFlat_cons]
        rw [Bool.and_eq_true] at this ⊢
        exact ⟨this.1, ihc this.2⟩
  have hcut : cut all off (m.length * k) = some (flatE enc m) := cut_many hk h4
  rw [appendS_eq (m := m.length) (new := flatE enc m) rfl (src_at h3 hcut) (hfl m), appendIn_own hk (List.length_pos_iff.2 hm0) (by omega) (by omega) hb hg, flatE_append]
/-- nothing is appended to nothing -/
theorem append_nothing {h : AHeap} {v : Value} (hv : SlIn enc k e h v []) : appendS h e k bytes none 0 0 v = some (.slice none 0 0, h) := by
  obtain ⟨a, c, rfl, hc, hv⟩ := hv
  rw [List.length_nil, appendS_eq (m := 0) (new := []) rfl (src_zero _ _ _ _) rfl]
  rfl
/-- a whole slice is appended to nothing -/
theorem append_nil_big {h : AHeap} {m : List α} {v : Value} (hk : ∀ x, (enc x).length = k) (hf : ∀ x, allFlat (enc x) = true) (hm0 : m ≠ []) (hb : m.length * bytes ≤ 281474976710656) (hmm : m.length ≤ 1000000000000000) (hv : SlIn enc k e h v m) :
    appendS h e k bytes none 0 0 v = some (.slice (some ⟨h.next, 0, none⟩) m.length m.length, h.new (.cells (flatE enc m) e true)) := by
  obtain ⟨a, c, rfl, hc, hv⟩ := hv
  obtain ⟨b', off, all, rw', rfl, h2, h3, h4⟩ := hv hm0
  have hfl : ∀ m : List α, allFlat (flatE enc m) = true := by
    intro m
    induction m with
    | nil => rfl
    | cons x m ih =>
      rw [flatE_cons]
      have := hf x
      revert this
      generalize enc x = cs
      intro this
      induction cs with
      | nil => exact ih
      | cons v cs ihc =>
        rw [allFlat_cons] at this
        rw [List.cons_append, allFlat_cons]
        rw [Bool.and_eq_true] at this ⊢
        exact ⟨this.1, ihc this.2⟩
  have hcut : cut all off (m.length * k) = some (flatE enc m) := cut_many hk h4
  have hpos := List.length_pos_iff.2 hm0
  rw [appendS_eq (m := m.length) (new := flatE enc m) rfl (src_at h3 hcut) (hfl m)]
  unfold appendIn
  rw [show capLo 0 = 0 from rfl, ble_no (show 0 < 0 + m.length by omega)]
  have : nilRoom none 0 bytes (0 + m.length) = true := by
    unfold nilRoom
    rw [ble_yes (by rw [Nat.zero_add]; exact hb), ble_yes (by omega)]; rfl
  rw [this, Bool.or_true, Nat.zero_add]
  rfl
theorem optP_one {h : AHeap} {l : List α} {b bn e' c : Nat} {x : α} {rw' : Bool} {Q : Value → AHeap → Prop} (hk : ∀ x, (enc x).length = k) (hf : ∀ x, allFlat (enc x) = true) (hn : l.length ≤ 300000) (hb : bytes ≤ 1000) (hg : l ≠ [] → h.get b = some (.cells (flatE enc l) e true)) (hx : h.get bn = some (.cells (enc x) e' rw'))
    (q : ∀ H, H.next = h.next + 1 → H.get h.next = some (.cells (flatE enc (l ++ [x])) e true) → (∀ c, c < h.next → (l ≠ [] → c ≠ b) → H.get c = h.get c) → Q (.slice (ownB (l ++ [x]) h.next) (l ++ [x]).length (l ++ [x]).length) H) :
    OptP (appendS h e k bytes (ownB l b) l.length l.length (.slice (some ⟨bn, 0, none⟩) 1 c)) Q := by
  rw [append_one hk (hf x) hn hb hg hx c]
  refine optP_some ?_
  have := q ((apH h l b).new (.cells (flatE enc (l ++ [x])) e true)) (by rw [next_new, apH_next]) (by rw [get_new, apH_next, if_pos rfl]) fun c hc hne => by rw [get_new, apH_next, if_neg (by omega), apH_get hne]
  rw [ownB_snoc, List.length_append] at this
  exact this
theorem optP_all {h : AHeap} {l m : List α} {b : Nat} {v : Value} {Q : Value → AHeap → Prop} (hk : ∀ x, (enc x).length = k) (hf : ∀ x, allFlat (enc x) = true) (hn : l.length ≤ 300000) (hmm : m.length ≤ 300000) (hm0 : m ≠ []) (hb : bytes ≤ 1000) (hg : l ≠ [] → h.get b = some (.cells (flatE enc l) e true)) (hv : SlIn enc k e h v m)
    (q : ∀ H, H.next = h.next + 1 → H.get h.next = some (.cells (flatE enc (l ++ m)) e true) → (∀ c, c < h.next → (l ≠ [] → c ≠ b) → H.get c = h.get c) → Q (.slice (ownB (l ++ m) h.next) (l ++ m).length (l ++ m).length) H) :
    OptP (appendS h e k bytes (ownB l b) l.length l.length v) Q := by
  rw [append_all hk hf hn hmm hm0 hb hg hv]
  refine optP_some ?_
  have := q ((apH h l b).new (.cells (flatE enc (l ++ m)) e true)) (by rw [next_new, apH_next]) (by rw [get_new, apH_next, if_pos rfl]) fun c hc hne => by rw [get_new, apH_next, if_neg (by omega), apH_get hne]
  rw [ownB_ne (by simp [hm0]), List.length_append] at this
  exact this
/-- a list that is made is a slice to read -/
theorem own_in {h : AHeap} {l : List α} {b c : Nat} (hk : ∀ x, (enc x).length = k) (hc : l.length ≤ capLo c) (hb : l ≠ [] → b < h.next) (hg : l ≠ [] → ∃ rw', h.get b = some (.cells (flatE enc l) e rw')) : SlIn enc k e h (.slice (ownB l b) l.length c) l := by
  refine ⟨_, c, rfl, hc, fun hne => ?_⟩
  obtain ⟨rw', hg⟩ := hg hne
  exact ⟨b, 0, _, rw', ownB_ne hne, hb hne, hg, fun i hi => by rw [Nat.zero_add]; exact flatE_cut hk l hi⟩
end
end Go.Ev
