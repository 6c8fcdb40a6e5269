/- The evaluator: what reads, makes and writes memory. -/
import Derived.Test.YtelepfablohdmaaGreatDoorEv7
import Derived.Laws.CopyRow
import Derived.RangeFuncRecord
set_option linter.unusedSimpArgs false
set_option linter.unusedVariables false
namespace Go.Ev

variable {P : Program} {base : Nat} {ρ : Ren} {w : World}

/-- the state of the evaluator and of the model -/
structure Sim (P : Program) (base : Nat) (ρ : Ren) (h : AHeap) (w : World) : Prop where
  rel : HRel P base ρ h.get w
  void : ∀ b, h.next ≤ b → h.get b = none
  room : base ≤ w.heap.size

theorem Sim.dom {h : AHeap} (s : Sim P base ρ h w) {b : Nat} {p : Place} (hb : ρ b = some p) : b < h.next := by
  obtain ⟨o, ho, _⟩ := s.rel.obj b p hb
  rcases Nat.lt_or_ge b h.next with h1 | h1
  · exact h1
  · rw [s.void b h1] at ho; cases ho

/-- from one state on to another one -/
structure Went (P : Program) (base : Nat) (ρ : Ren) (h : AHeap) (w : World) (ρ' : Ren) (h' : AHeap) (w' : World) : Prop where
  sim : Sim P base ρ' h' w'
  ext : Ext base ρ h.get h.next w ρ' h'.get h'.next w'

theorem Went.refl {h : AHeap} (s : Sim P base ρ h w) : Went P base ρ h w ρ h w := ⟨s, .refl _ _ _ _ _⟩
theorem Went.trans {h h' h'' : AHeap} {ρ' ρ'' : Ren} {w' w'' : World} (a : Went P base ρ h w ρ' h' w') (b : Went P base ρ' h' w' ρ'' h'' w'') : Went P base ρ h w ρ'' h'' w'' := ⟨b.sim, a.ext.trans b.ext⟩
theorem Went.le {h h' : AHeap} {ρ' : Ren} {w' : World} (a : Went P base ρ h w ρ' h' w') : Ren.le ρ ρ' := a.ext.le

def Ren.put (ρ : Ren) (b : Nat) (p : Place) : Ren := fun c => if b = c then some p else ρ c

theorem Ren.put_self (ρ : Ren) (b : Nat) (p : Place) : ρ.put b p b = some p := if_pos rfl
theorem Ren.put_ne (ρ : Ren) {b c : Nat} (p : Place) (h : b ≠ c) : ρ.put b p c = ρ c := if_neg h
theorem Ren.le_put {ρ : Ren} {b : Nat} {p : Place} (h : ρ b = none) : Ren.le ρ (ρ.put b p) := by
  intro c q hc
  by_cases e : b = c
  · subst e; rw [h] at hc; cases hc
  · rw [Ren.put_ne ρ p e]; exact hc

theorem Ren.full_put {ρ : Ren} {n : Nat} (p : Place) (b : Nat) (h1 : n ≤ b) (h2 : b < Nat.succ n) : ∃ q, ρ.put n p b = some q :=
  ⟨p, by rw [show b = n by have := Nat.le_of_lt_succ h2; omega]; exact Ren.put_self ρ n p⟩

theorem get_new (h : AHeap) (o : AObj) (b : Nat) : (h.new o).get b = if h.next = b then some o else h.get b := Tr.get_set h.tr h.next b o
theorem get_setH (h : AHeap) (c : Nat) (o : AObj) (b : Nat) : (h.set c o).get b = if c = b then some o else h.get b := Tr.get_set h.tr c b o

theorem alloc_heap (w : World) (o : Obj) (c : Nat) : (w.alloc o).heap[c]? = if c = w.heap.size then some o else w.heap[c]? := by
  show (w.heap.push o)[c]? = _
  rw [Array.getElem?_push]

theorem Sim.unmet {h : AHeap} (s : Sim P base ρ h w) : ρ h.next = none := by
  cases hρ : ρ h.next with
  | none => rfl
  | some p => exact absurd (s.dom hρ) (Nat.lt_irrefl _)

/-- a new block -/
theorem Sim.new {h : AHeap} (s : Sim P base ρ h w) (o : AObj) (o' : Obj) (esz total : Nat)
    (ho : ORel P (ρ.put h.next ⟨w.heap.size, 0, esz, total⟩) ⟨w.heap.size, 0, esz, total⟩ o (some o')) :
    Went P base ρ h w (ρ.put h.next ⟨w.heap.size, 0, esz, total⟩) (h.new o) (w.alloc o') := by
  have hnone : ρ h.next = none := by
    cases hρ : ρ h.next with
    | none => rfl
    | some p => exact absurd (s.dom hρ) (Nat.lt_irrefl _)
  have hle := Ren.le_put (p := ⟨w.heap.size, 0, esz, total⟩) hnone
  refine ⟨⟨⟨?_, ?_, ?_, ?_⟩, ?_, ?_⟩, ⟨hle, ?_, ?_, ?_, ?_, ?_, Ren.full_put _⟩⟩
  · intro b p hb
    by_cases e : h.next = b
    · subst e
      rw [Ren.put_self] at hb; cases hb
      refine ⟨o, by rw [get_new, if_pos rfl], ?_⟩
      rw [alloc_heap, if_pos rfl]; exact ho
    · rw [Ren.put_ne _ _ e] at hb
      obtain ⟨q, h1, h2⟩ := s.rel.obj b p hb
      refine ⟨q, by rw [get_new, if_neg e]; exact h1, ?_⟩
      rw [alloc_heap, if_neg (Nat.ne_of_lt (s.rel.size b p hb))]
      exact h2.mono hle
  · intro b₁ b₂ p₁ p₂ o₁ o₂ h1 h2 g1 g2 l1 l2 hp
    by_cases e1 : h.next = b₁
    · by_cases e2 : h.next = b₂
      · rw [← e1, ← e2]
      · subst e1
        rw [Ren.put_self] at h1; cases h1
        rw [Ren.put_ne _ _ e2] at h2
        exact absurd hp.symm (Nat.ne_of_lt (s.rel.size _ _ h2))
    · by_cases e2 : h.next = b₂
      · subst e2
        rw [Ren.put_self] at h2; cases h2
        rw [Ren.put_ne _ _ e1] at h1
        exact absurd hp (Nat.ne_of_lt (s.rel.size _ _ h1))
      · rw [Ren.put_ne _ _ e1] at h1
        rw [Ren.put_ne _ _ e2] at h2
        rw [get_new, if_neg e1] at g1
        rw [get_new, if_neg e2] at g2
        exact s.rel.inj _ _ _ _ _ _ h1 h2 g1 g2 l1 l2 hp
  · intro b p hb
    rw [World.size_alloc]
    by_cases e : h.next = b
    · subst e; rw [Ren.put_self] at hb; cases hb; exact Nat.lt_succ_self _
    · rw [Ren.put_ne _ _ e] at hb; exact Nat.lt_succ_of_lt (s.rel.size b p hb)
  · intro b p q hb hq hrw
    by_cases e : h.next = b
    · subst e; rw [Ren.put_self] at hb; cases hb; exact s.room
    · rw [Ren.put_ne _ _ e] at hb
      rw [get_new, if_neg e] at hq
      exact s.rel.lo b p q hb hq hrw
  · intro b hb
    have hb' : Nat.succ h.next ≤ b := hb
    rw [get_new, if_neg (by omega)]
    exact s.void b (by omega)
  · rw [World.size_alloc]; exact Nat.le_succ_of_le s.room
  · exact (RowKit.Below.refl base w).alloc s.room o'
  · intro c hc _
    rw [alloc_heap, if_neg (Nat.ne_of_lt hc)]
  · intro b p hb hn
    by_cases e : h.next = b
    · subst e; rw [Ren.put_self] at hb; cases hb; exact ⟨Nat.le_refl _, .inl (Nat.le_refl _)⟩
    · rw [Ren.put_ne _ _ e, hn] at hb; cases hb
  · exact Nat.le_succ _
  · intro b hb _
    rw [get_new, if_neg (by omega)]

/-- one block is written -/
theorem Sim.write {h : AHeap} (s : Sim P base ρ h w) {b : Nat} {p : Place} {o₀ o : AObj} {w' : World} (hb : ρ b = some p) (h0 : h.get b = some o₀) (hrw : o₀.rw = true) (hl : o.rw = true)
    (hsz : w'.heap.size = w.heap.size) (hoth : ∀ c, c ≠ p.block → w'.heap[c]? = w.heap[c]?) (hos : w'.os = w.os) (ht : w'.tape = w.tape) (hout : w'.output = w.output)
    (ho : ORel P ρ p o w'.heap[p.block]?) : Went P base ρ h w ρ (h.set b o) w' := by
  have hlive : ∀ q : AObj, q.rw = true → q.live = true := fun q hq => by cases q <;> first | rfl | cases hq
  have hlo := s.rel.lo b p o₀ hb h0 hrw
  refine ⟨⟨⟨?_, ?_, ?_, ?_⟩, ?_, ?_⟩, ⟨Ren.le_refl ρ, ⟨hos, ht, hout, by omega, fun k hk => hoth k (by omega)⟩, ?_, ?_, ?_, ?_, fun b h1 h2 => absurd h1 (Nat.not_le.2 h2)⟩⟩
  · intro c q hc
    by_cases e : b = c
    · subst e
      rw [hb] at hc; cases hc
      exact ⟨o, by rw [get_setH, if_pos rfl], ho⟩
    · obtain ⟨o₁, h1, h2⟩ := s.rel.obj c q hc
      refine ⟨o₁, by rw [get_setH, if_neg e]; exact h1, ?_⟩
      by_cases hp : q.block = p.block
      · cases hlv : o₁.live with
        | true => exact absurd (s.rel.inj _ _ _ _ _ _ hb hc h0 h1 hrw hlv hp.symm) e
        | false => cases o₁ <;> first | (exact trivial) | cases hlv
      · rw [hoth _ hp]; exact h2
  · intro b₁ b₂ p₁ p₂ o₁ o₂ h1 h2 g1 g2 l1 l2 hp
    have back : ∀ c q, (h.set b o).get c = some q → q.live = true → ∃ q₀, h.get c = some q₀ ∧ q₀.live = true := by
      intro c q hq hlv
      rw [get_setH] at hq
      split at hq
      · rename_i e; subst e; exact ⟨o₀, h0, hlive _ hrw⟩
      · exact ⟨q, hq, hlv⟩
    have back' : ∀ c q, (h.set b o).get c = some q → q.rw = true → ∃ q₀, h.get c = some q₀ ∧ q₀.rw = true := by
      intro c q hq hlv
      rw [get_setH] at hq
      split at hq
      · rename_i e; subst e; exact ⟨o₀, h0, hrw⟩
      · exact ⟨q, hq, hlv⟩
    obtain ⟨q₁, e1, f1⟩ := back' _ _ g1 l1
    obtain ⟨q₂, e2, f2⟩ := back _ _ g2 l2
    exact s.rel.inj _ _ _ _ _ _ h1 h2 e1 e2 f1 f2 hp
  · intro c q hc; rw [hsz]; exact s.rel.size c q hc
  · intro c q o₁ hc hq hrw₁
    rw [get_setH] at hq
    split at hq
    · rename_i e; subst e; rw [hb] at hc; cases hc; exact hlo
    · exact s.rel.lo c q o₁ hc hq hrw₁
  · intro c hc
    have hlt := s.dom hb
    rw [get_setH, if_neg (by show ¬ b = c; intro e; subst e; exact absurd hlt (Nat.not_lt.2 hc))]
    exact s.void c hc
  · rw [hsz]; exact s.room
  · intro c _ hc
    exact hoth c (fun e => hc b p hb e.symm)
  · intro c q hc hn; rw [hn] at hc; cases hc
  · exact Nat.le_refl _
  · intro c _ hn
    rw [get_setH, if_neg (by intro e; subst e; rw [hb] at hn; cases hn)]

/-- what is known of the blocks that a heap of the evaluator's has -/
def RdRel (P : Program) (ρ : Ren) (g : Nat → Option AObj) (w : World) : Prop := ∀ b p o, ρ b = some p → g b = some o → ORel P ρ p o w.heap[p.block]?

theorem HRel.rd {g : Nat → Option AObj} (h : HRel P base ρ g w) : RdRel P ρ g w := fun b p o hb ho => by
  obtain ⟨o', h1, h2⟩ := h.obj b p hb
  rw [h1] at ho; cases ho; exact h2

theorem cells_inv {p : Place} {c : List Value} {e : TypeId} {x : Option Obj} (h : ORel P ρ p (.cells c e true) x) : ∃ cs, x = some (.cells cs e (0, 0)) ∧ p.esz = P.cellsOf e ∧ p.total = cs.size ∧ CRel ρ c cs p.off := by
  cases x with
  | none => exact h.elim
  | some x =>
    cases x with
    | cells cs e' fz => obtain ⟨h1, h3, h4, h5⟩ := h; obtain ⟨rfl, rfl⟩ := h1 rfl; exact ⟨cs, rfl, h3, h4, h5⟩
    | _ => exact h.elim
theorem cells_inv' {p : Place} {c : List Value} {e : TypeId} {rw : Bool} {x : Option Obj} (h : ORel P ρ p (.cells c e rw) x) : ∃ cs e' fz, x = some (.cells cs e' fz) ∧ (rw = true → e' = e ∧ fz = (0, 0)) ∧ p.esz = P.cellsOf e ∧ p.total = cs.size ∧ CRel ρ c cs p.off := by
  cases x with
  | none => exact h.elim
  | some x =>
    cases x with
    | cells cs e' fz => obtain ⟨h1, h3, h4, h5⟩ := h; exact ⟨cs, e', fz, rfl, h1, h3, h4, h5⟩
    | _ => exact h.elim
theorem rw_live {o : AObj} (h : o.rw = true) : o.live = true := by cases o <;> first | rfl | cases h
theorem map_inv {p : Place} {es : List MapEntry} {k : Nat} {x : Option Obj} (h : ORel P ρ p (.map es k) x) : ∃ es', x = some (.map es' k) ∧ ERels ρ es es'.toList := by
  cases x with
  | none => exact h.elim
  | some x =>
    cases x with
    | map es' k' => obtain ⟨rfl, h2⟩ := h; exact ⟨es', rfl, h2⟩
    | _ => exact h.elim
theorem loop_inv {p : Place} {l : ALoop} {x : Option Obj} (h : ORel P ρ p (.loop l) x) : ∃ l', x = some (.loop l') ∧ LRel ρ l l' := by
  cases x with
  | none => exact h.elim
  | some x =>
    cases x with
    | loop l' => exact ⟨l', rfl, h⟩
    | _ => exact h.elim

theorem cell_of {b off : Nat} {cs : Array Value} {e : TypeId} {fz : Nat × Nat} (h : w.heap[b]? = some (.cells cs e fz)) : w.cell? ⟨b, off, none⟩ = cs[off]? := by
  simp [World.cell?, h]

theorem addr_add {b off n : Nat} : (⟨b, off, none⟩ : Addr).add n = ⟨b, off + n, none⟩ := by
  unfold Addr.add; split <;> simp_all

theorem ARel.eta {a a' : Addr} (h : ARel ρ a a') : ∃ p, ρ a.block = some p ∧ a' = ⟨p.block, a.off + p.off, none⟩ := by
  obtain ⟨_, h2, p, hp, h3, h4⟩ := h
  refine ⟨p, hp, ?_⟩
  cases a'
  simp_all

/-- cells that are read -/
theorem loadCells_sound {a a' : Addr} {c : List Value} {cs : Array Value} {e : TypeId} {fz : Nat × Nat} {p : Place} {n : Nat} {l : List Value} (hp : ρ a.block = some p) (ha : a' = ⟨p.block, a.off + p.off, none⟩)
    (hw : w.heap[p.block]? = some (.cells cs e fz)) (hc : CRel ρ c cs p.off) (hl : cut c a.off n = some l) : ∃ l', (∀ w₁ : World, w₁.heap = w.heap → (loadCells a' n).run P w₁ = .ok l' w₁) ∧ VRels ρ l l'.toList := by
  obtain ⟨hlen, hget⟩ := cut_get hl
  have hrel := VRels.of_get (ρ := ρ) (cs := cs) (off := a.off + p.off) (l := l) fun i v hv => by
    obtain ⟨v', h1, h2⟩ := hc.2 _ _ (hget i v hv).2
    exact ⟨v', by rw [show a.off + p.off + i = p.off + (a.off + i) by omega]; exact h1, h2⟩
  refine ⟨((cs.toList.drop (a.off + p.off)).take l.length).toArray, fun w₁ hw₁ => ?_, hrel⟩
  have hll := hrel.length
  have := run_loadCells_list (P := P) w₁ a' ((cs.toList.drop (a.off + p.off)).take l.length) fun j v hv => by
    rw [ha, addr_add, cell_of (by rw [hw₁]; exact hw)]
    rw [List.getElem?_take] at hv
    split at hv
    · rw [List.getElem?_drop] at hv; simpa using hv
    · cases hv
  rw [hll, hlen] at this
  rw [hlen]
  exact this

theorem load_sound {g : Nat → Option AObj} {t : TypeId} {x x' v : Value} {b : Nat} {f : AObj → Option Value} {o : AObj} (hr : RdRel P ρ g w) (h : loadR P t x = some (b, f)) (hg : g b = some o) (hf : f o = some v) (hx : VRel ρ x x') : GivesV P ρ w (Instr.loadAt t x') v := by
  unfold loadR at h
  split at h
  · rename_i a
    split at h
    · cases h
      obtain ⟨a', rfl, ha⟩ := hx.ptr_inv
      obtain ⟨p, hp, rfl⟩ := ha.eta
      dsimp only at hf
      split at hf
      · rename_i c e rw
        obtain ⟨cs, e', fz, hw, _, _, _, hc⟩ := cells_inv' (hr _ _ _ hp hg)
        unfold loadV at hf
        split at hf
        · rename_i i d hi hd
          split at hf
          · rename_i hag
            rw [Option.map_eq_some_iff] at hf
            obtain ⟨l, hl, rfl⟩ := hf
            obtain ⟨l', h1, h2⟩ := loadCells_sound (P := P) hp rfl hw hc hl
            have h1 := h1 w rfl
            exact ⟨.agg l', by simp [Instr.loadAt, Instr.sureAddr, loadVar, run_agg? hd, hag, run_size hi, h1], .mkAgg h2⟩
          · rename_i hag
            rw [at?_eq] at hf
            obtain ⟨v', h1, h2⟩ := hc.2 _ _ hf
            refine ⟨v', ?_, h2⟩
            have hcell : w.cell? ⟨p.block, a.off + p.off, none⟩ = some v' := by rw [cell_of hw, Nat.add_comm]; exact h1
            simp [Instr.loadAt, Instr.sureAddr, loadVar, run_agg? hd, hag, hcell]
        · cases hf
      · cases hf
    · cases h
  · cases h

/-! ### maps -/
theorem run_checkKey {d : TypeDesc} {t : TypeId} (hd : P.underlying t = some d) (hp : plainD d = true) (b : Bool) (n : Nat) (v : Value) : (Instr.checkKey b (n + 1) t v).run P w = .ok () w := by
  unfold Instr.checkKey
  simp only [Sem.run_bind, run_under hd, Result.andThen_ok]
  cases d <;> first | (cases hp; done) | rfl

theorem sameNow_sound {d : TypeDesc} {x x' y y' : Value} {r : Bool} (h : cellEq d x y = some r) (hx : VRel ρ x x') (hy : VRel ρ y y') : Instr.sameNow d x' y' = some r := by
  unfold cellEq at h
  split at h
  · obtain ⟨hk, h⟩ := cond_some h
    cases h
    rw [hx.int_inv, hy.int_inv, kindEq_spec hk, eqI_spec]
    simp [Instr.sameNow]
    rfl
  · cases h
    rw [hx.string_inv, hy.string_inv, bytesEq_spec]
    simp only [Instr.sameNow, beq_toListBytes, ByteArray.toList_eq]
  · cases h
    rw [hx.bool_inv, hy.bool_inv]
    rfl
  · cases h

theorem find_sound {d : TypeDesc} {k k' : Value} (hk : VRel ρ k k') : ∀ {es es' : List MapEntry} {i : Nat} {r : Option (Nat × Value)}, ERels ρ es es' → findE d k es i = some r →
    ∃ r', Instr.findNow d k' es' i = some r' ∧ (r = none ∧ r' = none ∨ ∃ j v v', r = some (j, v) ∧ r' = some (j, v') ∧ VRel ρ v v' ∧ i ≤ j ∧ j < i + es.length)
  | [], _, i, r, .nil, h => by
    have : some none = some r := h
    cases this
    exact ⟨none, rfl, .inl ⟨rfl, rfl⟩⟩
  | e :: es, _, i, r, .cons (e' := e') hke hv hb ht, h => by
    unfold findE at h
    unfold Instr.findNow
    split at h
    · rename_i hc
      cases h
      rw [sameNow_sound hc hk hke]
      exact ⟨_, rfl, .inr ⟨i, _, _, rfl, rfl, hv, Nat.le_refl _, by simp⟩⟩
    · rename_i hc
      rw [sameNow_sound hc hk hke]
      obtain ⟨r', h1, h2⟩ := find_sound hk ht h
      refine ⟨r', h1, h2.imp id ?_⟩
      rintro ⟨j, v, v', e1, e2, e3, e4, e5⟩
      exact ⟨j, v, v', e1, e2, e3, by omega, by simp; omega⟩
    · cases h

theorem run_findKey {d : TypeDesc} {t : TypeId} {k : Value} {es : List MapEntry} {r : Option (Nat × Value)} (hd : P.underlying t = some d) (h : Instr.findNow d k es 0 = some r) : (Instr.findKey t k es).run P w = .ok r w := by
  simp only [Instr.findKey, Sem.run_bind, run_under hd, Result.andThen_ok, h, Sem.run_pure]

/-- a look-up among entries -/
theorem lookV_sound {t key elem : TypeId} {k k' v x' : Value} {ok : Bool} {es : List MapEntry} {es' : Array MapEntry} (hu : P.underlying t = some (.map key elem)) (h : lookV P key elem k ok es = some v) (he : ERels ρ es es'.toList) (hk : VRel ρ k k')
    (hx : x' = .map none ∧ es' = #[] ∨ ∃ r c, x' = .map (some r) ∧ w.heap[r]? = some (.map es' c)) : GivesV P ρ w (Instr.lookup t x' k' ok) v := by
  unfold lookV at h
  split at h
  · rename_i d z hd hz
    obtain ⟨i, hi, hzz, _, _, hzr, _⟩ := zero_spec (ρ := ρ) hz
    obtain ⟨hp, h⟩ := cond_some h
    have hrun : ∀ r', Instr.findNow d k' es'.toList 0 = some r' → (Instr.lookup t x' k' ok).run P w = .ok (match r' with
        | some (_, u) => cond ok (.tuple #[u, .bool true]) u
        | none => cond ok (.tuple #[z, .bool false]) z) w := by
      intro r' h1
      have h2 := run_findKey (P := P) (w := w) hd h1
      unfold Instr.lookup
      rcases hx with ⟨rfl, rfl⟩ | ⟨r, c, rfl, hr⟩
      · simp only [Sem.run_bind, run_under hu, Result.andThen_ok, Sem.run_pure, run_checkKey hd hp, h2]
        cases r' with
        | none => simp only [Sem.run_bind, run_zero hi hzz, Result.andThen_ok, Sem.run_pure]; cases ok <;> rfl
        | some u => cases ok <;> rfl
      · have hg : (getObj r).run P w = .ok (.map es' c) w := by simp [getObj, Sem.run, hr]
        simp only [Sem.run_bind, run_under hu, Result.andThen_ok, Sem.run_pure, run_checkKey hd hp, hg, h2]
        cases r' with
        | none => simp only [Sem.run_bind, run_zero hi hzz, Result.andThen_ok, Sem.run_pure]; cases ok <;> rfl
        | some u => cases ok <;> rfl
    split at h
    · rename_i j u hf
      cases h
      obtain ⟨r', h1, h2⟩ := find_sound hk he hf
      rcases h2 with ⟨h2, _⟩ | ⟨j', v1, v', e1, e2, e3, _, _⟩
      · cases h2
      · cases e1; subst e2
        refine ⟨cond ok (.tuple #[v', .bool true]) v', hrun _ h1, ?_⟩
        cases ok
        · exact e3
        · exact .mkTuple (.cons e3 (.cons (.bool true) .nil))
    · rename_i hf
      cases h
      obtain ⟨r', h1, h2⟩ := find_sound hk he hf
      rcases h2 with ⟨_, h2⟩ | ⟨j', v1, v', e1, _⟩
      · subst h2
        refine ⟨cond ok (.tuple #[z, .bool false]) z, hrun _ h1, ?_⟩
        cases ok
        · exact hzr
        · exact .mkTuple (.cons hzr (.cons (.bool false) .nil))
      · cases e1
    · cases h
  · cases h

theorem look_sound {g : Nat → Option AObj} {t : TypeId} {m m' k k' v : Value} {ok : Bool} {b : Nat} {f : AObj → Option Value} {o : AObj} (hr : RdRel P ρ g w) (h : lookR P t m k ok = some (b, f)) (hg : g b = some o) (hf : f o = some v) (hm : VRel ρ m m') (hk : VRel ρ k k') : GivesV P ρ w (Instr.lookup t m' k' ok) v := by
  unfold lookR at h
  split at h
  · rename_i key elem r hu
    cases h
    obtain ⟨p, rfl, hp⟩ := hm.map_inv
    dsimp only at hf
    split at hf
    · rename_i es c
      obtain ⟨es', hw, he⟩ := map_inv (hr _ _ _ hp hg)
      exact lookV_sound hu hf he hk (.inr ⟨_, _, rfl, hw⟩)
    · cases hf
  · cases h

theorem lookN_sound {t : TypeId} {k k' v : Value} {ok : Bool} (h : lookN P t k ok = some v) (hk : VRel ρ k k') : GivesV P ρ w (Instr.lookup t (.map none) k' ok) v := by
  unfold lookN at h
  split at h
  · rename_i key elem hu
    exact lookV_sound (es' := #[]) hu h .nil hk (.inl ⟨rfl, rfl⟩)
  · cases h

theorem ERels.length : ∀ {l l' : List MapEntry}, ERels ρ l l' → l'.length = l.length
  | _, _, .nil => rfl
  | _, _, .cons _ _ _ t => by simp [t.length]

theorem lenR_sound {g : Nat → Option AObj} {t : TypeId} {ts : Array TypeId} {ty : TypeId} {xs : Array Value} {x x' v : Value} {b : Nat} {f : AObj → Option Value} {o : AObj} (hr : RdRel P ρ g w) (h : lenR P t x = some (b, f)) (hg : g b = some o) (hf : f o = some v) (hx : VRel ρ x x') (ht : ts[0]? = some t) (hxs : xs[0]? = some x') : GivesV P ρ w (Builtin.len_ ts ty xs) v := by
  unfold lenR at h
  split at h
  · rename_i key elem r hu
    cases h
    obtain ⟨p, rfl, hp⟩ := hx.map_inv
    dsimp only at hf
    split at hf
    · rename_i es c
      cases hf
      obtain ⟨es', hw, he⟩ := map_inv (hr _ _ _ hp hg)
      have hg' : (getObj p.block).run P w = .ok (.map es' c) w := by simp [getObj, Sem.run, hw]
      refine ⟨goInt es'.size, ?_, ?_⟩
      · unfold Builtin.len_
        simp only [ht, hxs, Sem.run_bind, run_under hu, Result.andThen_ok, hg', Sem.run_pure]
      · have := he.length
        rw [Array.length_toList] at this
        rw [this]; exact .int _ _
    · cases hf
  · cases h

/-! ### slice expressions -/
theorem boundOf_spec {o : Option Value} {d n : Nat} (h : boundOf o d = some n) : (o = none ∧ n = d) ∨ ∃ k, o = some (.int k n) := by
  unfold boundOf at h
  split at h
  · obtain ⟨k, hk⟩ := natOf_eq h; exact .inr ⟨k, by rw [hk]⟩
  · cases h; exact .inl ⟨rfl, rfl⟩

def ORelV (ρ : Ren) : Option Value → Option Value → Prop
  | none, none => True
  | some v, some v' => VRel ρ v v'
  | _, _ => False

theorem ORelV.bound {o o' : Option Value} {d n : Nat} (hr : ORelV ρ o o') (h : boundOf o d = some n) : (o = none ∧ o' = none ∧ n = d) ∨ ∃ k, o = some (.int k n) ∧ o' = some (.int k n) := by
  rcases boundOf_spec h with ⟨rfl, h2⟩ | ⟨k, rfl⟩
  · cases o' with
    | none => exact .inl ⟨rfl, rfl, h2⟩
    | some _ => exact hr.elim
  · cases o' with
    | none => exact hr.elim
    | some v' => exact .inr ⟨k, rfl, by rw [VRel.int_inv hr]⟩

theorem run_bound {k : IntKind} {n y : Nat} {code : BoundsCode} (h : n ≤ y) : (Instr.sliceBound (.int k n) y code).run P w = .ok n w := by
  have : (0 : Int) ≤ n ∧ (n : Int) ≤ y := ⟨by omega, by omega⟩
  simp [Instr.sliceBound, asIntOf, this]

/-- the bounds of a slice expression: c the least, c' the true capacity -/
theorem bounds_sound {b : Bool} {c c' len : Nat} {lo hi mx lo' hi' mx' : Option Value} {l h m : Nat} (hb : boundsOf c len lo hi mx = some (l, h, m)) (h1 : ORelV ρ lo lo') (h2 : ORelV ρ hi hi') (h3 : ORelV ρ mx mx') (hc : c ≤ c') :
    (Instr.sliceBounds b len c' lo' hi' mx').run P w = .ok (l, h, if mx.isSome then m else c') w ∧ l ≤ h ∧ h ≤ m ∧ m ≤ c ∧ (mx = none → m = c) := by
  unfold boundsOf at hb
  split at hb
  · rename_i m0 h0 l0 em eh el
    obtain ⟨hcond, hb⟩ := cond_some hb
    cases hb
    simp only [Bool.and_eq_true, Bool.or_eq_true, Bool.not_eq_true'] at hcond
    obtain ⟨⟨⟨k1, k2⟩, k3⟩, k4⟩ := hcond
    have k1 := Nat.le_of_ble_eq_true k1
    have k2 := Nat.le_of_ble_eq_true k2
    have k3 := Nat.le_of_ble_eq_true k3
    refine ⟨?_, k1, k2, k3, ?_⟩
    · rcases h3.bound em with ⟨rfl, rfl, rfl⟩ | ⟨km, rfl, rfl⟩
      · rcases h2.bound eh with ⟨rfl, rfl, rfl⟩ | ⟨kh, rfl, rfl⟩
        · rcases h1.bound el with ⟨rfl, rfl, rfl⟩ | ⟨kl, rfl, rfl⟩
          · simp [Instr.sliceBounds]
          · simp [Instr.sliceBounds, run_bound k1]
        · rcases h1.bound el with ⟨rfl, rfl, rfl⟩ | ⟨kl, rfl, rfl⟩
          · simp [Instr.sliceBounds, run_bound (P := P) (w := w) (k := kh) (code := if b then .sliceAcap else .sliceAlen) (Nat.le_trans k2 hc)]
          · simp [Instr.sliceBounds, run_bound (P := P) (w := w) (k := kh) (code := if b then .sliceAcap else .sliceAlen) (Nat.le_trans k2 hc), run_bound k1]
      · rcases h2.bound eh with ⟨rfl, rfl, rfl⟩ | ⟨kh, rfl, rfl⟩
        · simp at k4
        · rcases h1.bound el with ⟨rfl, rfl, rfl⟩ | ⟨kl, rfl, rfl⟩
          · simp [Instr.sliceBounds, run_bound (P := P) (w := w) (k := km) (code := if b then .slice3Acap else .slice3Alen) (Nat.le_trans k3 hc), run_bound k2]
          · simp [Instr.sliceBounds, run_bound (P := P) (w := w) (k := km) (code := if b then .slice3Acap else .slice3Alen) (Nat.le_trans k3 hc), run_bound k2, run_bound k1]
    · intro hm
      subst hm
      rcases h3.bound em with ⟨_, _, e⟩ | ⟨_, e, _⟩
      · exact e
      · cases e
  · cases hb
end Go.Ev
