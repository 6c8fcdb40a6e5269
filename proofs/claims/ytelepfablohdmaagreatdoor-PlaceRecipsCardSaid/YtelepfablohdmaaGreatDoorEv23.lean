/- The evaluator: the steps of a frame. -/
import Derived.Test.YtelepfablohdmaaGreatDoorEv22
import Derived.RangeFuncIn
import Derived.RangeFuncLeaves
set_option linter.unusedSimpArgs false
set_option linter.unusedVariables false
namespace Go.Ev

variable {P : Program} {base : Nat} {ρ : Ren} {w : World}

/-- a region's end, as a tree -/
noncomputable def Loc.flushed (s : Nat) (l : Loc) (tr : Tr Value) : Tr Value :=
  Loc.rec (motive := fun _ => Tr Value) tr (fun t v _ ih => Bool.rec (motive := fun _ => Tr Value) ih (ih.set t v) (bitOf s t)) l
theorem flushed_cons (s t : Nat) (v : Value) (l : Loc) (tr : Tr Value) : (Loc.cons t v l).flushed s tr = Bool.rec (motive := fun _ => Tr Value) (l.flushed s tr) ((l.flushed s tr).set t v) (bitOf s t) := rfl
theorem flushK_eq {β : Type} (s : Nat) (tr : Tr Value) : ∀ (l : Loc) (k : Tr Value → β), l.flushK s tr k = k (l.flushed s tr)
  | .nil, k => rfl
  | .cons t v l, k => by
    show (Bool.rec (motive := fun _ => β) (l.flushK s tr k) (l.flushK s tr fun tr => Tr.setK tr t v k) (bitOf s t)) = _
    rw [flushed_cons]
    cases bitOf s t with
    | false => exact flushK_eq s tr l k
    | true =>
      show (l.flushK s tr fun tr => Tr.setK tr t v k) = k ((l.flushed s tr).set t v)
      rw [flushK_eq s tr l, Tr.setK_eq]

theorem flushed_get {s : Nat} {tr : Tr Value} (hs : ∀ t v, tr.get t = some v → bitOf s t = true) : ∀ {l : Loc} {t : Nat} {v : Value}, (l.flushed s tr).get t = some v → bitOf s t = true ∧ l.look t (got (tr.get t)) = v
  | .nil, t, v, h => by
    have h' : tr.get t = some v := h
    exact ⟨hs t v h', by show got (tr.get t) = v; rw [h']; rfl⟩
  | .cons t' v' l, t, v, h => by
    rw [flushed_cons] at h
    rw [look_cons]
    cases hb : bitOf s t' with
    | false =>
      rw [hb] at h
      obtain ⟨h1, h2⟩ := flushed_get hs (l := l) h
      refine ⟨h1, ?_⟩
      rw [if_neg (fun e => by subst e; rw [hb] at h1; cases h1)]
      exact h2
    | true =>
      rw [hb] at h
      have h' : ((l.flushed s tr).set t' v').get t = some v := h
      rw [Tr.get_set] at h'
      by_cases e : t' = t
      · rw [if_pos e] at h'
        cases h'
        exact ⟨by rw [← e]; exact hb, by rw [if_pos e]⟩
      · rw [if_neg e] at h'
        rw [if_neg e]
        exact flushed_get hs (l := l) h'

theorem TRel.env {size shared : Nat} {tr : Tr Value} {tmps : Array Value} (h : TRel ρ size shared tr tmps) : EnvRel ρ .nil tr tmps := fun t => by
  show VRel ρ (got (tr.get t)) _
  cases hg : tr.get t with
  | none => exact .top _
  | some v => exact (h.2 t v hg).2

theorem EnvRel.flush {size shared : Nat} {tr : Tr Value} {l : Loc} {tmps : Array Value} (h : EnvRel ρ l tr tmps) (hsz : tmps.size = size) (hs : ∀ t v, tr.get t = some v → bitOf shared t = true) : TRel ρ size shared (l.flushed shared tr) tmps :=
  ⟨hsz, fun t v e => by
    obtain ⟨h1, h2⟩ := flushed_get hs e
    exact ⟨h1, by rw [← h2]; exact h t⟩⟩

/-- what a frame has to do on its way out: the marks of its loops -/
inductive DRels (ρ : Ren) : List Deferred → List Deferred → Prop where
  | nil : DRels ρ [] []
  | cons {d d' : Deferred} {l l' : List Deferred} {b : Nat} {p : Place} (h1 : d.target = .collected b) (h2 : ρ b = some p) (h3 : d'.target = .collected p.block) (t : DRels ρ l l') : DRels ρ (d :: l) (d' :: l')
  | fn {d d' : Deferred} {l l' : List Deferred} {g : FuncId} {cap cap' xs xs' : List Value} (h1 : d = ⟨.fn (.func g) ⟨cap⟩, ⟨xs⟩⟩) (h2 : VRels ρ cap cap') (h3 : VRels ρ xs xs') (h4 : d' = ⟨.fn (.func g) ⟨cap'⟩, ⟨xs'⟩⟩) (t : DRels ρ l l') : DRels ρ (d :: l) (d' :: l')
theorem DRels.mono {ρ ρ' : Ren} (hl : ρ.le ρ') : ∀ {l l' : List Deferred}, DRels ρ l l' → DRels ρ' l l'
  | _, _, .nil => .nil
  | _, _, .cons h1 h2 h3 t => .cons h1 (hl _ _ h2) h3 (t.mono hl)
  | _, _, .fn h1 h2 h3 h4 t => .fn h1 (h2.mono hl) (h3.mono hl) h4 (t.mono hl)

def RoundRel (ρ : Ren) : Option Nat → Option Nat → Prop
  | none, none => True
  | some l, some l' => ∃ p, ρ l = some p ∧ l' = p.block
  | _, _ => False
theorem RoundRel.mono {ρ ρ' : Ren} (hl : ρ.le ρ') {a b : Option Nat} (h : RoundRel ρ a b) : RoundRel ρ' a b := by
  cases a <;> cases b <;> try exact h
  obtain ⟨p, h1, h2⟩ := h
  exact ⟨p, hl _ _ h1, h2⟩

/-- the state of a frame -/
structure FrR (P : Program) (base : Nat) (c : Ctx) (b : Frame) (ρ : Ren) (tr : Tr Value) (defers : List Deferred) (h : AHeap) (a : Act) (w : World) : Prop where
  sim : Sim P base ρ h w
  tmps : TRel ρ c.size c.shared tr a.tmps
  round : RoundRel ρ c.round b.roundOf
  defs : DRels ρ defers a.defers

/-- from one state of a frame on to another one -/
def Moves (P : Program) (base : Nat) (c : Ctx) (b : Frame) (ρ : Ren) (h : AHeap) (a : Act) (w : World) (todo : List Item) (tr' : Tr Value) (defers' : List Deferred) (h' : AHeap) (todo' : List Item) : Prop :=
  ∃ ρ' w' a', (∀ cs, Steps P (lone (b.atR a todo) cs w) (lone (b.atR a' todo') cs w')) ∧ Went P base ρ h w ρ' h' w' ∧ FrR P base c b ρ' tr' defers' h' a' w'

/-- an item that ends a frame -/
def EndOk : List Item → Prop
  | [] => True
  | .code .ret :: _ => True
  | .code (.exit id) :: k => exitTo id k = none
  | .code (.goto l) :: k => gotoIn l k = none
  | _ => False

/-- what an item does is right -/
def ItemOk (P : Program) (base : Nat) (c : Ctx) (b : Frame) (tr : Tr Value) (defers : List Deferred) (h : AHeap) (x : Item) (k : List Item) (nx : Nx) : Prop :=
  ∀ (ρ : Ren) (w : World) (a : Act), FrR P base c b ρ tr defers h a w → match nx with
    | .go todo => Moves P base c b ρ h a w (x :: k) tr defers h todo
    | .set tr' h' todo defers' => Moves P base c b ρ h a w (x :: k) tr' defers' h' todo
    | .done => EndOk (x :: k)
    | .fail => True

theorem FrR.stay {c : Ctx} {b : Frame} {tr : Tr Value} {defers : List Deferred} {h : AHeap} {a : Act} {x : Item} {k todo : List Item} (f : FrR P base c b ρ tr defers h a w) (s : ∀ cs, step P (lone (b.atR a (x :: k)) cs w) = .next (lone (b.atR a todo) cs w)) :
    Moves P base c b ρ h a w (x :: k) tr defers h todo := ⟨ρ, w, a, fun cs => .one (s cs), .refl f.sim, f⟩

theorem region_ok {c : Ctx} {b : Frame} {tr : Tr Value} {defers : List Deferred} {h : AHeap} {k : List Item} {ops : Array Oper} {id : Nat} {draw : Bool} {r : Option (Loc × AHeap)}
    (H : ∀ (ρ : Ren) (w : World) (a : Act) (l' : Loc) (h' : AHeap), a.tmps.size = c.size → Sim P base ρ h w → EnvRel ρ .nil tr a.tmps → r = some (l', h') →
      ∃ ρ' w' a', (∀ cs, Steps P (lone (b.atR a (.code (.region id ops draw) :: k)) cs w) (lone (b.atR a' k) cs w')) ∧ Went P base ρ h w ρ' h' w' ∧ EnvRel ρ' l' tr a'.tmps ∧ a'.tmps.size = a.tmps.size ∧ a'.defers = a.defers) :
    ItemOk P base c b tr defers h (.code (.region id ops draw)) k (regionNx c.shared tr k defers r) := by
  intro ρ w a f
  unfold regionNx
  cases hr : r with
  | none => trivial
  | some r =>
    obtain ⟨l', h'⟩ := r
    dsimp only
    rw [flushK_eq]
    dsimp only
    obtain ⟨ρ', w', a', h1, h2, h3, h4, h5⟩ := H ρ w a l' h' f.tmps.1 f.sim f.tmps.env hr
    exact ⟨ρ', w', a', h1, h2, h2.sim, h3.flush (by rw [h4]; exact f.tmps.1) (fun t v e => (f.tmps.2 t v e).1), f.round.mono h2.le, by rw [h5]; exact f.defs.mono h2.le⟩

theorem ev_nil {size shared : Nat} {tr : Tr Value} {a : Act} (h : TRel ρ size shared tr a.tmps) (x : Operand) : VRel ρ (ev .nil tr x) (a.eval x) := h.env.ev x

theorem cond_ok {c : Ctx} {b : Frame} {tr : Tr Value} {defers : List Deferred} {h : AHeap} {k : List Item} {v : Operand} {x y : Code} : ItemOk P base c b tr defers h (.code (.cond v x y)) k (condNx (ev .nil tr v) x y k) := by
  intro ρ w a f
  have hv := ev_nil f.tmps v
  unfold condNx
  split
  · rename_i t ht
    split at ht
    · rename_i t' ht'
      rw [ht'] at hv
      have := fun cs => stepR_cond (P := P) (b := b) (k := k) (cs := cs) (w := w) (x := x) (y := y) hv.bool_inv
      cases t' <;> cases ht <;> exact f.stay this
    · cases ht
  · rename_i ht
    split at ht
    · rename_i t' _; cases t' <;> cases ht
    · cases ht
  · rename_i ht
    split at ht
    · rename_i t' _; cases t' <;> cases ht
    · cases ht
  · trivial

/-- a block that was a record -/
theorem putObj_went {h : AHeap} (st : Sim P base ρ h w) {l : Nat} {p : Place} {r r₂ : ALoop} {r' r₂' : Loop} (hp : ρ l = some p) (hg : h.get l = some (.loop r)) (hw : w.heap[p.block]? = some (.loop r')) (ho : LRel ρ r₂ r₂') :
    Went P base ρ h w ρ (h.set l (.loop r₂)) (w.putObj p.block (.loop r₂')) :=
  st.putObj hp hg rfl rfl hw ho

theorem FrR.wentBy {c : Ctx} {b : Frame} {tr : Tr Value} {defers : List Deferred} {h h' : AHeap} {a : Act} {ρ' : Ren} {w' : World} (f : FrR P base c b ρ tr defers h a w) (g : Went P base ρ h w ρ' h' w') : FrR P base c b ρ' tr defers h' a w' :=
  ⟨g.sim, f.tmps.mono g.le, f.round.mono g.le, f.defs.mono g.le⟩

theorem loop_at {h : AHeap} (st : Sim P base ρ h w) {l : Nat} {p : Place} {r : ALoop} (hp : ρ l = some p) (hg : h.get l = some (.loop r)) : ∃ r', w.heap[p.block]? = some (.loop r') ∧ LRel ρ r r' := by
  obtain ⟨l', h1, h2⟩ := loop_inv (st.rel.rd _ _ _ hp hg)
  exact ⟨l', h1, h2⟩

theorem begin_ok {c : Ctx} {b : Frame} {tr : Tr Value} {defers : List Deferred} {h : AHeap} {k : List Item} : ItemOk P base c b tr defers h .beginRound k (beginNx c.round tr defers h k) := by
  intro ρ w a f
  have hround := f.round
  unfold beginNx
  cases hr : c.round with
  | none => trivial
  | some l =>
    dsimp only
    cases hg : h.get l with
    | none => trivial
    | some o =>
      cases o with
      | loop r =>
        dsimp only
        cases hs : r.state with
        | ready =>
          dsimp only
          rw [AHeap.setK_eq]
          dsimp only
          rw [hr] at hround
          cases hb : b.roundOf with
          | none => rw [hb] at hround; exact hround.elim
          | some l' =>
            rw [hb] at hround
            obtain ⟨p, hp, rfl⟩ := hround
            obtain ⟨r', h1, h2⟩ := loop_at f.sim hp hg
            have hstate := h2.1
            obtain ⟨k1, k2, k3, k4, k5, k6, k7, k8⟩ := h2
            have g := putObj_went (r₂ := { r with state := .busy, pending := r.pending }) (r₂' := { r' with state := .busy }) f.sim hp hg h1 ⟨rfl, k2, k3, k4, k5, k6, k7, k8⟩
            exact ⟨ρ, _, a, fun cs => .one (stepR_beginRound hb (run_beginRound h1 (by rw [hstate, hs]))), g, f.wentBy g⟩
        | _ => trivial
      | _ => trivial
end Go.Ev
