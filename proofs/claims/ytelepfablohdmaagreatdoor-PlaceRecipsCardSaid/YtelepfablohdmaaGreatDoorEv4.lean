/- The evaluator: what its values and heaps say of the model's. -/
import Derived.Test.YtelepfablohdmaaGreatDoorEv3
import Derived.AtR
import Derived.Below
import Derived.Laws.Cells
set_option linter.unusedSimpArgs false
set_option linter.unusedVariables false
namespace Go.Ev

/-- Where a block of the evaluator's lies: in which block of the model's, from which cell on; the cells of an element; how many cells the block has. -/
structure Place where
  block : Nat
  off : Nat
  esz : Nat
  total : Nat

abbrev Ren := Nat → Option Place

def ARel (ρ : Ren) (a a' : Addr) : Prop :=
  a.spot = none ∧ a'.spot = none ∧ ∃ p, ρ a.block = some p ∧ a'.block = p.block ∧ a'.off = a.off + p.off

def capRel (c c' : Nat) : Prop := capLo c ≤ c' ∧ (isEx c = true → c' = capLo c)

mutual
inductive VRel (ρ : Ren) : Value → Value → Prop where
  | top (v : Value) : VRel ρ (.chan (some 0)) v
  | bool (b : Bool) : VRel ρ (.bool b) (.bool b)
  | int (k : IntKind) (n : Int) : VRel ρ (.int k n) (.int k n)
  | string (s : ByteArray) : VRel ρ (.string s) (.string s)
  | pnil : VRel ρ (.pointer none) (.pointer none)
  | ptr {a a' : Addr} (h : ARel ρ a a') : VRel ρ (.pointer (some a)) (.pointer (some a'))
  | snil : VRel ρ (.slice none 0 0) (.slice none 0 0)
  | sl {a a' : Addr} {n c c' : Nat} {p : Place} (h : ARel ρ a a') (hc : capRel c c') (hn : n ≤ capLo c) (hp : ρ a.block = some p) (hw : isEx c = true ∨ a.off + p.off + c' * p.esz ≤ p.total) : VRel ρ (.slice (some a) n c) (.slice (some a') n c')
  | sj (a' : Addr) (c' : Nat) : VRel ρ (.slice (some ⟨0, 0, some 0⟩) 0 0) (.slice (some a') 0 c')
  | mnil : VRel ρ (.map none) (.map none)
  | map {r : Nat} {p : Place} (h : ρ r = some p) : VRel ρ (.map (some r)) (.map (some p.block))
  | fn {f : Fn} {xs ys us vs : List Value} (hf : plainFn f = true) (h1 : VRels ρ xs us) (h2 : VRels ρ ys vs) : VRel ρ (.func f ⟨xs⟩ ⟨ys⟩) (.func f ⟨us⟩ ⟨vs⟩)
  | yl {l : Nat} {p : Place} (h : ρ l = some p) : VRel ρ (.func (.yield l) #[] #[]) (.func (.yield p.block) #[] #[])
  | nilFunc : VRel ρ .nilFunc .nilFunc
  | nilIface : VRel ρ .nilIface .nilIface
  | iface {t : TypeId} {v v' : Value} (h : VRel ρ v v') : VRel ρ (.iface t v) (.iface t v')
  | agg {xs ys : List Value} (h : VRels ρ xs ys) : VRel ρ (.agg ⟨xs⟩) (.agg ⟨ys⟩)
  | tuple {xs ys : List Value} (h : VRels ρ xs ys) : VRel ρ (.tuple ⟨xs⟩) (.tuple ⟨ys⟩)
inductive VRels (ρ : Ren) : List Value → List Value → Prop where
  | nil : VRels ρ [] []
  | cons {v v' : Value} {l l' : List Value} (h : VRel ρ v v') (t : VRels ρ l l') : VRels ρ (v :: l) (v' :: l')
end

/-- every place stays where it is -/
def Ren.le (ρ ρ' : Ren) : Prop := ∀ b p, ρ b = some p → ρ' b = some p
theorem Ren.le_refl (ρ : Ren) : ρ.le ρ := fun _ _ h => h
theorem Ren.le_trans {ρ ρ' ρ'' : Ren} (h : ρ.le ρ') (h' : ρ'.le ρ'') : ρ.le ρ'' := fun b p e => h' b p (h b p e)

theorem ARel.mono {ρ ρ' : Ren} (hl : ρ.le ρ') {a a' : Addr} (h : ARel ρ a a') : ARel ρ' a a' := by
  obtain ⟨h1, h2, p, hp, h3, h4⟩ := h
  exact ⟨h1, h2, p, hl _ _ hp, h3, h4⟩

mutual
theorem VRel.mono {ρ ρ' : Ren} (hl : ρ.le ρ') : ∀ {v v' : Value}, VRel ρ v v' → VRel ρ' v v'
  | _, _, .top v => .top v
  | _, _, .bool b => .bool b
  | _, _, .int k n => .int k n
  | _, _, .string s => .string s
  | _, _, .pnil => .pnil
  | _, _, .ptr h => .ptr (h.mono hl)
  | _, _, .snil => .snil
  | _, _, .sl h hc hn hp hw => .sl (h.mono hl) hc hn (hl _ _ hp) hw
  | _, _, .sj a c => .sj a c
  | _, _, .mnil => .mnil
  | _, _, .map h => .map (hl _ _ h)
  | _, _, .fn hf h1 h2 => .fn hf (h1.mono hl) (h2.mono hl)
  | _, _, .yl h => .yl (hl _ _ h)
  | _, _, .nilFunc => .nilFunc
  | _, _, .nilIface => .nilIface
  | _, _, .iface h => .iface (h.mono hl)
  | _, _, .agg h => .agg (h.mono hl)
  | _, _, .tuple h => .tuple (h.mono hl)
theorem VRels.mono {ρ ρ' : Ren} (hl : ρ.le ρ') : ∀ {l l' : List Value}, VRels ρ l l' → VRels ρ' l l'
  | _, _, .nil => .nil
  | _, _, .cons h t => .cons (h.mono hl) (t.mono hl)
end

theorem VRels.length {ρ : Ren} : ∀ {l l' : List Value}, VRels ρ l l' → l'.length = l.length
  | _, _, .nil => rfl
  | _, _, .cons _ t => by simp [t.length]

theorem VRels.get {ρ : Ren} : ∀ {l l' : List Value}, VRels ρ l l' → ∀ {i : Nat} {v : Value}, l[i]? = some v → ∃ v', l'[i]? = some v' ∧ VRel ρ v v'
  | _, _, .nil, i, v, h => by simp at h
  | _, _, .cons (v := a) (v' := a') h t, 0, v, e => by
    simp at e; subst e; exact ⟨a', rfl, h⟩
  | _, _, .cons h t, i + 1, v, e => by
    simp at e
    obtain ⟨v', h1, h2⟩ := t.get e
    exact ⟨v', by simpa using h1, h2⟩

theorem VRels.append {ρ : Ren} : ∀ {l l' m m' : List Value}, VRels ρ l l' → VRels ρ m m' → VRels ρ (l ++ m) (l' ++ m')
  | _, _, _, _, .nil, h => h
  | _, _, _, _, .cons h t, h' => .cons h (t.append h')

/-- the model's cells from off on hold what the list says -/
def CRel (ρ : Ren) (c : List Value) (cs : Array Value) (off : Nat) : Prop :=
  off + c.length ≤ cs.size ∧ ∀ i v, c[i]? = some v → ∃ v', cs[off + i]? = some v' ∧ VRel ρ v v'

theorem CRel.mono {ρ ρ' : Ren} (hl : ρ.le ρ') {c : List Value} {cs : Array Value} {off : Nat} (h : CRel ρ c cs off) : CRel ρ' c cs off :=
  ⟨h.1, fun i v e => let ⟨v', h1, h2⟩ := h.2 i v e; ⟨v', h1, h2.mono hl⟩⟩

inductive ERels (ρ : Ren) : List MapEntry → List MapEntry → Prop where
  | nil : ERels ρ [] []
  | cons {e e' : MapEntry} {l l' : List MapEntry} (hk : VRel ρ e.key e'.key) (hv : VRel ρ e.val e'.val) (hb : e'.born = e.born) (t : ERels ρ l l') : ERels ρ (e :: l) (e' :: l')

theorem ERels.mono {ρ ρ' : Ren} (hl : ρ.le ρ') : ∀ {l l' : List MapEntry}, ERels ρ l l' → ERels ρ' l l'
  | _, _, .nil => .nil
  | _, _, .cons hk hv hb t => .cons (hk.mono hl) (hv.mono hl) hb (t.mono hl)

/-- what a frame's tree says of its slots -/
def TRel (ρ : Ren) (size shared : Nat) (tr : Tr Value) (tmps : Array Value) : Prop :=
  tmps.size = size ∧ ∀ t v, tr.get t = some v → bitOf shared t = true ∧ VRel ρ v (tmps.getD t undef)

theorem TRel.mono {ρ ρ' : Ren} (hl : ρ.le ρ') {size shared : Nat} {tr : Tr Value} {tmps : Array Value} (h : TRel ρ size shared tr tmps) : TRel ρ' size shared tr tmps :=
  ⟨h.1, fun t v e => ⟨(h.2 t v e).1, (h.2 t v e).2.mono hl⟩⟩

def LRel (ρ : Ren) (l : ALoop) (l' : Loop) : Prop :=
  l'.state = l.state ∧ l'.pending = l.pending ∧ l'.fn = l.fn ∧ l'.params = l.params ∧ l'.assign = l.assign ∧ l'.body = l.body ∧
  TRel ρ l.size l.shared l.tr l'.tmps ∧ ∃ p, ρ l.defers = some p ∧ l'.defers = p.block

def ORel (P : Program) (ρ : Ren) (p : Place) : AObj → Option Obj → Prop
  | .dead, _ => True
  | .cells c e rw, some (.cells cs e' fz) => (rw = true → e' = e ∧ fz = (0, 0)) ∧ p.esz = P.cellsOf e ∧ p.total = cs.size ∧ CRel ρ c cs p.off
  | .map es clock, some (.map es' clock') => clock' = clock ∧ ERels ρ es es'.toList
  | .loop l, some (.loop l') => LRel ρ l l'
  | .deferred none, some (.deferred none) => True
  | .deferred (some []), some (.deferred (some [])) => True
  | _, _ => False

theorem ORel.mono {P : Program} {ρ ρ' : Ren} (hl : ρ.le ρ') {p : Place} {o : AObj} {o' : Option Obj} (h : ORel P ρ p o o') : ORel P ρ' p o o' := by
  unfold ORel at *
  split at h
  · trivial
  · obtain ⟨h1, h3, h4, h5⟩ := h; exact ⟨h1, h3, h4, h5.mono hl⟩
  · obtain ⟨h1, h2⟩ := h; exact ⟨h1, h2.mono hl⟩
  · obtain ⟨h1, h2, h3, h4, h5, h6, h7, q, hq, h8⟩ := h; exact ⟨h1, h2, h3, h4, h5, h6, h7.mono hl, q, hl _ _ hq, h8⟩
  · trivial
  · trivial
  · exact h.elim

def AObj.live : AObj → Bool
  | .dead => false
  | _ => true

/-- may it be written? -/
def AObj.rw : AObj → Bool
  | .dead => false
  | .cells _ _ rw => rw
  | _ => true

structure HRel (P : Program) (base : Nat) (ρ : Ren) (g : Nat → Option AObj) (w : World) : Prop where
  obj : ∀ b p, ρ b = some p → ∃ o, g b = some o ∧ ORel P ρ p o w.heap[p.block]?
  inj : ∀ b₁ b₂ p₁ p₂ o₁ o₂, ρ b₁ = some p₁ → ρ b₂ = some p₂ → g b₁ = some o₁ → g b₂ = some o₂ → o₁.rw = true → o₂.live = true → p₁.block = p₂.block → b₁ = b₂
  size : ∀ b p, ρ b = some p → p.block < w.heap.size
  lo : ∀ b p o, ρ b = some p → g b = some o → o.rw = true → base ≤ p.block

/-- From (ρ, g, w) on to (ρ', g', w'): what was known is known, what was not known of has not changed, and new places are in new blocks or in blocks that were known. 'n', 'n'': the evaluator's next block. -/
structure Ext (base : Nat) (ρ : Ren) (g : Nat → Option AObj) (n : Nat) (w : World) (ρ' : Ren) (g' : Nat → Option AObj) (n' : Nat) (w' : World) : Prop where
  le : ρ.le ρ'
  below : RowKit.Below base w w'
  kept : ∀ c, c < w.heap.size → (∀ b p, ρ b = some p → p.block ≠ c) → w'.heap[c]? = w.heap[c]?
  fresh : ∀ b p, ρ' b = some p → ρ b = none → n ≤ b ∧ (w.heap.size ≤ p.block ∨ ∃ b₀ p₀, ρ b₀ = some p₀ ∧ p₀.block = p.block)
  next : n ≤ n'
  same : ∀ b, b < n → ρ b = none → g' b = g b
  full : ∀ b, n ≤ b → b < n' → ∃ p, ρ' b = some p

theorem Ext.refl (base : Nat) (ρ : Ren) (g : Nat → Option AObj) (n : Nat) (w : World) : Ext base ρ g n w ρ g n w :=
  ⟨Ren.le_refl ρ, .refl _ _, fun _ _ _ => rfl, (fun b p h h' => by rw [h] at h'; cases h'), Nat.le_refl _, fun _ _ _ => rfl, fun b h1 h2 => absurd h1 (Nat.not_le.2 h2)⟩

theorem Ext.trans {base : Nat} {ρ ρ' ρ'' : Ren} {g g' g'' : Nat → Option AObj} {n n' n'' : Nat} {w w' w'' : World}
    (h : Ext base ρ g n w ρ' g' n' w') (h' : Ext base ρ' g' n' w' ρ'' g'' n'' w'') : Ext base ρ g n w ρ'' g'' n'' w'' where
  le := Ren.le_trans h.le h'.le
  below := h.below.trans h'.below
  kept c hc hn := by
    rw [h'.kept c (Nat.lt_of_lt_of_le hc h.below.size) ?_, h.kept c hc hn]
    intro b p hb
    cases hρ : ρ b with
    | some q => rw [h.le _ _ hρ] at hb; cases hb; exact hn _ _ hρ
    | none =>
      rcases (h.fresh b p hb hρ).2 with hh | ⟨b₀, p₀, h0, e⟩
      · omega
      · rw [← e]; exact hn _ _ h0
  fresh b p hb hn := by
    cases hρ' : ρ' b with
    | some q =>
      rw [h'.le _ _ hρ'] at hb; cases hb
      exact h.fresh _ _ hρ' hn
    | none =>
      obtain ⟨h1, h2⟩ := h'.fresh b p hb hρ'
      refine ⟨Nat.le_trans h.next h1, ?_⟩
      rcases h2 with hh | ⟨b₀, p₀, h0, e⟩
      · exact .inl (Nat.le_trans h.below.size hh)
      · cases hρ : ρ b₀ with
        | some q => rw [h.le _ _ hρ] at h0; cases h0; exact .inr ⟨b₀, p₀, hρ, e⟩
        | none =>
          rcases (h.fresh b₀ p₀ h0 hρ).2 with hh | ⟨b₁, p₁, h1', e'⟩
          · exact .inl (by omega)
          · exact .inr ⟨b₁, p₁, h1', e'.trans e⟩
  next := Nat.le_trans h.next h'.next
  same b hb hn := by
    have hb' : b < n' := Nat.lt_of_lt_of_le hb h.next
    have hn' : ρ' b = none := by
      cases hρ' : ρ' b with
      | none => rfl
      | some p => have := (h.fresh b p hρ' hn).1; omega
    rw [h'.same b hb' hn', h.same b hb hn]
  full b h1 h2 := by
    rcases Nat.lt_or_ge b n' with h3 | h3
    · obtain ⟨p, hp⟩ := h.full b h1 h3
      exact ⟨p, h'.le _ _ hp⟩
    · exact h'.full b h3 h2

/-- the evaluator's heap has no block from 'next' on, and none of them has a place -/
structure Wf (ρ : Ren) (h : AHeap) : Prop where
  none : ∀ b, h.next ≤ b → h.get b = none

theorem Wf.dom {P : Program} {base : Nat} {ρ : Ren} {h : AHeap} {w : World} (hw : Wf ρ h) (hh : HRel P base ρ h.get w) {b : Nat} {p : Place} (hb : ρ b = some p) : b < h.next := by
  obtain ⟨o, ho, _⟩ := hh.obj b p hb
  rcases Nat.lt_or_ge b h.next with h1 | h1
  · exact h1
  · rw [hw.none b h1] at ho; cases ho

end Go.Ev
