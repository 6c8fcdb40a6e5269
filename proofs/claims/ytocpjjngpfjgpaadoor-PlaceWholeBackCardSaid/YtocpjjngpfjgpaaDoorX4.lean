/- The evaluator with panics: items, and a frame's run. -/
import Derived.Test.YtocpjjngpfjgpaaDoorX3
set_option linter.unusedSimpArgs false
set_option linter.unusedVariables false
namespace Go.Ev

variable {P : Program} {base : Nat} {ρ : Ren} {w : World}

theorem edges_of {j : Nat} : ∀ {es : List Edge}, edgesOk j es = true → ∀ {e : Edge}, e ∈ es → Region.binds .any e = true → e.on < j
  | [], _, e, he, _ => by cases he
  | x :: es, h, e, he, hb => by
    have h2 : (Bool.rec (motive := fun _ => Bool) (edgesOk j es) (Bool.rec (motive := fun _ => Bool) false (edgesOk j es) (Nat.blt x.on j)) (Region.binds .any x) : Bool) = true := h
    cases he with
    | head =>
      rw [hb] at h2
      cases hlt : Nat.blt x.on j with
      | true => exact blt_lt hlt
      | false => rw [hlt] at h2; cases h2
    | tail _ he =>
      refine edges_of (es := es) ?_ he hb
      cases hb' : Region.binds .any x with
      | false => rw [hb'] at h2; exact h2
      | true =>
        rw [hb'] at h2
        cases hlt : Nat.blt x.on j with
        | true => rw [hlt] at h2; exact h2
        | false => rw [hlt] at h2; cases h2

theorem chainB_edges {l : List Oper} (hc : chainB l = true) {j : Nat} {o : Oper} (ho : l[j]? = some o) : edgesOk j o.after.toList = true := by
  have hj : j < l.length := by
    rcases Nat.lt_or_ge j l.length with h | h
    · exact h
    · rw [List.getElem?_eq_none h] at ho; cases ho
  have h1 := (ble_and (allBelow_iff.1 hc j hj)).1
  rw [nth_eq, ho] at h1
  exact h1
theorem chainB_must {l : List Oper} (hc : chainB l = true) {i : Nat} (hj : i + 1 < l.length) : mustBefore l i (i + 1) = true :=
  (ble_and (allBelow_iff.1 hc (i + 1) hj)).2

theorem chain_go {ops : Array Oper} (hc : chainB ops.toList = true) : ∀ (fuel t m : Nat) (listed : Array Bool), listed.size = ops.size → (∀ j, Listed listed j ↔ j < m) → m + fuel = ops.size →
    Region.linearise.go .any ops fuel t listed [] = List.range' m fuel
  | 0, t, m, listed, _, _, _ => by simp [Region.linearise.go]
  | fuel + 1, t, m, listed, hsz, hl, hm => by
    have hun : ∀ j, ¬ j < m → listed.getD j false = false := fun j hj => by
      have := mt (hl j).1 hj
      unfold Listed at this
      simpa using this
    have hclosed : Closed ops.toList (fun j => j < m) := fun j o e ho he hb hj => by
      have := edges_of (chainB_edges hc ho) he hb
      show e.on < m
      have hj' : j < m := hj
      omega
    have hone : ∀ j, j ∈ Region.ready .any ops listed → j = m := fun j hj => by
      obtain ⟨h1, o, ho, hall⟩ := mem_ready.1 hj
      have hjl := op_lt ho
      have hge : ¬ j < m := fun h => by
        have := (hl j).2 h
        unfold Listed at this
        rw [listed_lt (by omega), this] at h1
        cases h1
      rcases Nat.lt_or_ge m j with h | h
      · exfalso
        obtain ⟨i, rfl⟩ : ∃ i, j = i + 1 := ⟨j - 1, by omega⟩
        have hr := must_reach (chainB_must hc (i := i) (by simpa using hjl))
        have key : ∀ x y, Reach ops.toList x y → ops.toList[y]? = some o → x < m := by
          intro x y hr hy
          cases hr with
          | edge ho' he hb =>
            rw [hy] at ho'; cases ho'
            exact (hl _).1 (hall _ (by simpa using he) hb)
          | trans ho' he hb hr' =>
            rw [hy] at ho'; cases ho'
            exact hclosed.reach hr' ((hl _).1 (hall _ (by simpa using he) hb))
        have hin : i < m := key _ _ hr (by simpa using ho)
        omega
      · omega
    obtain ⟨o, ho⟩ := op_at (ops := ops) (i := m) (by omega)
    have hmem : m ∈ Region.ready .any ops listed := mem_ready.2 ⟨by rw [listed_lt (by omega)]; exact hun m (Nat.lt_irrefl m), o, ho, fun e he hb => by
      have := edges_of (chainB_edges hc (j := m) (o := o) (by simpa using ho)) (by simpa using he) hb
      exact (hl e.on).2 this⟩
    have hidx : (Region.ready .any ops listed)[t % (Region.ready .any ops listed).length]? = some m := by
      have hpos : 0 < (Region.ready .any ops listed).length := List.length_pos_of_mem hmem
      have hlt := Nat.mod_lt t hpos
      have h1 := List.getElem?_eq_getElem hlt
      rw [h1, hone _ (List.getElem_mem hlt)]
    simp only [Region.linearise.go]
    change (match (Region.ready .any ops listed)[t % (Region.ready .any ops listed).length]? with
      | some i => Region.linearise.go .any ops fuel (t / (Region.ready .any ops listed).length) (listed.setIfInBounds i true) [i]
      | none => [].reverse) = _
    rw [hidx]
    dsimp only
    rw [linearise_go_acc, List.reverse_singleton, List.singleton_append, List.range'_succ]
    congr 1
    refine chain_go hc fuel _ (m + 1) (listed.setIfInBounds m true) (by rw [Array.size_setIfInBounds]; exact hsz) (fun j => ?_) (by omega)
    rw [listed_set (by omega), hl j]
    omega

theorem chain_schedule {ops : Array Oper} (hc : chainB ops.toList = true) (t : Nat) : Region.linearise .any ops t = List.range' 0 ops.size := by
  unfold Region.linearise
  refine chain_go hc ops.size t 0 _ (by simp) (fun j => ?_) (by omega)
  unfold Listed
  simp only [Array.getD_eq_getD_getElem?, Array.getElem?_replicate]
  constructor
  · intro h
    split at h <;> simp at h
  · intro h; exact absurd h (Nat.not_lt_zero j)

/-- from one state of a frame on to another one -/
def MovesX (P : Program) (base : Nat) (c : Ctx) (b : Frame) (K : Bool → List Frame → List Frame) (ρ : Ren) (h : AHeap) (a : Act) (w : World) (todo : List Item) (q : Option Value) (tr' : Tr Value) (defers' : List Deferred) (h' : AHeap) (todo' : List Item) (q' : Option Value) : Prop :=
  ∃ ρ' w' a', (∀ cs, Steps P (lone (b.atR a todo) (K q.isSome cs) w) (lone (b.atR a' todo') (K q'.isSome cs) w')) ∧ Went P base ρ h w ρ' h' w' ∧ FrR P base c b ρ' tr' defers' h' a' w' ∧ KRel ρ' q' b.kind K ∧ (q' = none ∨ q' = q)

/-- how a frame's run panics -/
def EndsX (P : Program) (base : Nat) (c : Ctx) (b : Frame) (K : Bool → List Frame → List Frame) (ρ : Ren) (h : AHeap) (a : Act) (w : World) (todo : List Item) (q : Option Value) (v : Value) (tr' : Tr Value) (h' : AHeap) (q' : Option Value) (ds' : List Deferred) : Prop :=
  ∃ ρ' w' a' v' todo', (∀ cs, Steps P (lone (b.atR a todo) (K q.isSome cs) w) (lone ((b.atR a' todo').raise [{ v := v', recovered := false }]) (K q'.isSome cs) w')) ∧ Went P base ρ h w ρ' h' w' ∧ VRel ρ' v v' ∧ FrR P base c b ρ' tr' ds' h' a' w' ∧ (q' = none ∨ q' = q)

def ItemOkX (P : Program) (base : Nat) (c : Ctx) (b : Frame) (K : Bool → List Frame → List Frame) (tr : Tr Value) (defers : List Deferred) (h : AHeap) (x : Item) (k : List Item) (q : Option Value) (nx : NxX) : Prop :=
  ∀ (ρ : Ren) (w : World) (a : Act), FrR P base c b ρ tr defers h a w → KRel ρ q b.kind K → match nx with
    | .go todo => MovesX P base c b K ρ h a w (x :: k) q tr defers h todo q
    | .set tr' h' todo defers' q' => MovesX P base c b K ρ h a w (x :: k) q tr' defers' h' todo q'
    | .done => EndOk (x :: k)
    | .pan v tr' h' q' ds' => EndsX P base c b K ρ h a w (x :: k) q v tr' h' q' ds'
    | .fail => True

theorem lift_ok {c : Ctx} {b : Frame} {K : Bool → List Frame → List Frame} {tr : Tr Value} {defers : List Deferred} {h : AHeap} {x : Item} {k : List Item} {q : Option Value} {nx : Nx} (hi : ItemOk P base c b tr defers h x k nx) : ItemOkX P base c b K tr defers h x k q (liftX q nx) := by
  intro ρ w a f hK
  have := hi ρ w a f
  cases nx with
  | go todo =>
    obtain ⟨ρ', w', a', s, g, f'⟩ := this
    exact ⟨ρ', w', a', fun cs => s _, g, f', hK.mono g.le, .inr rfl⟩
  | set tr' h' todo defers' =>
    obtain ⟨ρ', w', a', s, g, f'⟩ := this
    exact ⟨ρ', w', a', fun cs => s _, g, f', hK.mono g.le, .inr rfl⟩
  | done => exact this
  | fail => trivial

theorem regionX_ok {c : Ctx} {b : Frame} {K : Bool → List Frame → List Frame} {tr : Tr Value} {defers : List Deferred} {h : AHeap} {x : Item} {k : List Item} {q : Option Value} {r : ResR}
    (H : ∀ (ρ : Ren) (w : World) (a : Act), FrR P base c b ρ tr defers h a w → KRel ρ q b.kind K → RegOk P base b K ρ tr h a w (x :: k) k q r) : ItemOkX P base c b K tr defers h x k q (regionX c.shared tr k r) := by
  intro ρ w a f hK
  have := H ρ w a f hK
  cases r with
  | ok l h' q' ds =>
    unfold regionX
    dsimp only
    rw [flushK_eq]
    dsimp only
    obtain ⟨ρ', w', a', s, g, e, z, d, kk, o⟩ := this
    exact ⟨ρ', w', a', s, g, ⟨g.sim, e.flush (by rw [z]; exact f.tmps.1) (fun t v e => (f.tmps.2 t v e).1), f.round.mono g.le, d⟩, kk, o⟩
  | pan v l h' q' ds =>
    unfold regionX
    dsimp only
    rw [flushK_eq]
    dsimp only
    obtain ⟨ρ', w', a', v', todo', s, g, r, e, z, d, kk, o⟩ := this
    exact ⟨ρ', w', a', v', todo', s, g, r, ⟨g.sim, e.flush (by rw [z]; exact f.tmps.1) (fun t v e => (f.tmps.2 t v e).1), f.round.mono g.le, d⟩, o⟩
  | no => trivial

theorem item_okX {cx : CtxX} {b : Frame} {K : Bool → List Frame → List Frame} (hm : P.follows .mixedOrders = true) (hP : cx.c.P = P) (hx : XOk P cx.x) (hci : cx.c.inv = asInv cx.x) (hfn : b.fn = cx.c.fn) (hb : b.roundOf = none) (x : Item) (tr : Tr Value) (defers : List Deferred) (h : AHeap) (k : List Item) (q : Option Value) :
    ItemOkX P base cx.c b K tr defers h x k q ((itemX x).f cx tr defers h k q) := by
  have hinv : InvOk P cx.c.inv := by rw [hci]; exact hx.val
  have hlift : ∀ x, ItemOkX P base cx.c b K tr defers h x k q (liftX q ((itemC x).f cx.c tr defers h k)) := fun x => lift_ok (item_ok hm hP hinv hfn x tr defers h k)
  cases x with
  | code x =>
    cases x with
    | region id ops draw =>
      have htext : ∀ (ρ : Ren) (w : World) (a : Act), FrR P base cx.c b ρ tr defers h a w → KRel ρ q b.kind K →
          RegOk P base b K ρ tr h a w (.inRegion ops (List.range' 0 ops.size) :: k) k q (runX cx.c.P cx.x cx.c.size ops.toList tr ops.toList .nil h q defers) := fun ρ w a f hK => by
        have := runX_sound (P := P) (base := base) (ops := ops) (K := K) (k := k) (tr := tr) hx hb ops.toList 0 ρ w .nil h q defers a (by simp) rfl f.sim f.tmps.env f.defs hK
        rw [hP, ← f.tmps.1]
        simpa using this
      cases draw with
      | false =>
        refine regionX_ok fun ρ w a f hK => ?_
        refine RegOk.after (q₁ := q) (fun cs => ?_) (.refl f.sim) rfl (.inr rfl) (htext ρ w a f hK)
        refine .one ?_
        rw [stepR_region, List.range_eq_range']
      | true =>
        show ItemOkX P base cx.c b K tr defers h _ k q ((drawX ops).f cx tr defers h k q)
        unfold drawX
        cases hc : chainB ops.toList with
        | false => exact hlift (.code (.region id ops true))
        | true =>
          refine regionX_ok fun ρ w a f hK => ?_
          have hd := f.sim.drew
          refine RegOk.after (q₁ := q) (w₁ := w.drew) (fun cs => ?_) hd rfl (.inr rfl) (htext ρ w.drew a (f.wentBy hd) hK)
          refine .one ?_
          rw [stepR_region_draw]
          simp only [Region.schedule, hm, Bool.true_or, if_true, chain_schedule hc]
          rfl
    | _ => exact hlift _
  | _ => exact hlift _

theorem runFX_zero (c : CtxX) (tr : Tr Value) (defers : List Deferred) (h : AHeap) (q : Option Value) (todo : List Item) : runFX c 0 tr defers h q todo = .no := rfl
theorem runFX_nil (c : CtxX) (n : Nat) (tr : Tr Value) (defers : List Deferred) (h : AHeap) (q : Option Value) : runFX c (n + 1) tr defers h q [] = .ret tr [] defers h q := rfl
theorem runFX_cons (c : CtxX) (n : Nat) (tr : Tr Value) (defers : List Deferred) (h : AHeap) (q : Option Value) (x : Item) (k : List Item) : runFX c (n + 1) tr defers h q (x :: k) = nextX tr defers h q x k (runFX c n) ((itemX x).f c tr defers h k q) := rfl

def RunOk (P : Program) (base : Nat) (c : Ctx) (b : Frame) (K : Bool → List Frame → List Frame) (ρ : Ren) (h : AHeap) (a : Act) (w : World) (todo : List Item) (q : Option Value) : StX → Prop
  | .ret tr' todo' defers' h' q' => MovesX P base c b K ρ h a w todo q tr' defers' h' todo' q' ∧ EndOk todo'
  | .pan v tr' h' q' ds' => EndsX P base c b K ρ h a w todo q v tr' h' q' ds'
  | .no => True

theorem RunOk.after {c : Ctx} {b : Frame} {K : Bool → List Frame → List Frame} {h h₁ : AHeap} {a a₁ : Act} {todo todo₁ : List Item} {q q₁ : Option Value} {ρ₁ : Ren} {w₁ : World} {r : StX}
    (s : ∀ cs, Steps P (lone (b.atR a todo) (K q.isSome cs) w) (lone (b.atR a₁ todo₁) (K q₁.isSome cs) w₁)) (g : Went P base ρ h w ρ₁ h₁ w₁) (hsz : a₁.tmps.size = a.tmps.size) (hq : q₁ = none ∨ q₁ = q) (e : RunOk P base c b K ρ₁ h₁ a₁ w₁ todo₁ q₁ r) : RunOk P base c b K ρ h a w todo q r := by
  cases r with
  | ret tr' todo' defers' h' q' =>
    obtain ⟨⟨ρ', w', a', s2, g2, f, kk, o⟩, e2⟩ := e
    exact ⟨⟨ρ', w', a', fun cs => (s cs).trans (s2 cs), g.trans g2, f, kk, or_trans hq o⟩, e2⟩
  | pan v tr' h' q' ds' =>
    obtain ⟨ρ', w', a', v', todo', s2, g2, r, f, o⟩ := e
    exact ⟨ρ', w', a', v', todo', fun cs => (s cs).trans (s2 cs), g.trans g2, r, f, or_trans hq o⟩
  | no => trivial

/-- a frame's run -/
theorem runFX_sound {cx : CtxX} {b : Frame} {K : Bool → List Frame → List Frame} (hm : P.follows .mixedOrders = true) (hP : cx.c.P = P) (hx : XOk P cx.x) (hci : cx.c.inv = asInv cx.x) (hfn : b.fn = cx.c.fn) (hb : b.roundOf = none) : ∀ (n : Nat) (ρ : Ren) (w : World) (a : Act) (tr : Tr Value) (defers : List Deferred) (h : AHeap) (q : Option Value) (todo : List Item),
    FrR P base cx.c b ρ tr defers h a w → KRel ρ q b.kind K → RunOk P base cx.c b K ρ h a w todo q (runFX cx n tr defers h q todo)
  | 0, _, _, _, _, _, _, _, _, _, _ => trivial
  | n + 1, ρ, w, a, tr, defers, h, q, [], f, hK => ⟨⟨ρ, w, a, fun cs => .refl _ _, .refl f.sim, f, hK, .inr rfl⟩, trivial⟩
  | n + 1, ρ, w, a, tr, defers, h, q, x :: k, f, hK => by
    rw [runFX_cons]
    have hi := item_okX (base := base) (b := b) (K := K) hm hP hx hci hfn hb x tr defers h k q ρ w a f hK
    revert hi
    generalize (itemX x).f cx tr defers h k q = nx
    intro hi
    cases nx with
    | go todo =>
      obtain ⟨ρ', w', a', s1, g1, f1, k1, o1⟩ := hi
      exact RunOk.after s1 g1 (by rw [f1.tmps.1, f.tmps.1]) o1 (runFX_sound hm hP hx hci hfn hb n ρ' w' a' tr defers h q todo f1 k1)
    | set tr' h' todo defers' q' =>
      obtain ⟨ρ', w', a', s1, g1, f1, k1, o1⟩ := hi
      exact RunOk.after s1 g1 (by rw [f1.tmps.1, f.tmps.1]) o1 (runFX_sound hm hP hx hci hfn hb n ρ' w' a' tr' defers' h' q' todo f1 k1)
    | done => exact ⟨⟨ρ, w, a, fun cs => .refl _ _, .refl f.sim, f, hK, .inr rfl⟩, hi⟩
    | pan v tr' h' q' ds' => exact hi
    | fail => trivial
end Go.Ev
