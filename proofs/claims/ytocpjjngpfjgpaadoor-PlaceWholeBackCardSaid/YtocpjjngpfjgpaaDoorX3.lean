/- The evaluator with panics: regions in the order of the text. -/
import Derived.Test.YtocpjjngpfjgpaaDoorX2
set_option linter.unusedSimpArgs false
set_option linter.unusedVariables false
namespace Go.Ev

variable {P : Program} {base : Nat} {ρ : Ren} {w : World}

theorem put_defers (a : Act) (dst : Option Tmp) (v : Value) : (a.put dst v).defers = a.defers := by cases dst <;> rfl

section steps
variable {o : Oper} {b : Frame} {a : Act} {ops : Array Oper} {i : Nat} {rest : List Nat} {k : List Item} {cs cs' : List Frame}

theorem recover_some {v : Value} (ho : ops[i]? = some o) (hw : Region.wanted o (yielded ops a.tmps) = true) (hnd : ∀ c, o.op ≠ .defer c) (hb : b.roundOf = none) (hr : (execOp a.eval o).run P w = .ok .recover w)
    (ht : tryRecover (b.atR a (.inRegion ops (i :: rest) :: k)) cs = some (v, cs')) :
    Steps P (lone (b.atR a (.inRegion ops (i :: rest) :: k)) cs w) (lone (b.atR (a.put o.dst v) (.inRegion ops rest :: k)) cs' w) := by
  have hfin : (b.atR a (.inRegion ops (i :: rest) :: k)).finish v = b.atR (a.put o.dst v) (.inRegion ops rest :: k) := by
    rw [Frame.finish_atR, ho]; rfl
  have hg := stepGR_op (P := P) (b := b) (a := a) (k := k) (cs := cs) (w := w) (rest := rest) ho hw
  rw [Oper.semAt_eq _ _ _ hnd] at hg
  have hro : (b.atR a (.inRegion ops (i :: rest) :: k)).roundOf = none := hb
  refine .one (step_lone_go ?_)
  rw [hg, ← hfin]
  simp [stepG.apply, Sem.runT_eq, hr, GStep.bare_after, hro, ht]

theorem recover_none (ho : ops[i]? = some o) (hw : Region.wanted o (yielded ops a.tmps) = true) (hnd : ∀ c, o.op ≠ .defer c) (hb : b.roundOf = none) (hr : (execOp a.eval o).run P w = .ok .recover w)
    (ht : tryRecover (b.atR a (.inRegion ops (i :: rest) :: k)) cs = none) :
    Steps P (lone (b.atR a (.inRegion ops (i :: rest) :: k)) cs w) (lone (b.atR (a.put o.dst .nilIface) (.inRegion ops rest :: k)) cs w) := by
  have hfin : (b.atR a (.inRegion ops (i :: rest) :: k)).finish .nilIface = b.atR (a.put o.dst .nilIface) (.inRegion ops rest :: k) := by
    rw [Frame.finish_atR, ho]; rfl
  have hg := stepGR_op (P := P) (b := b) (a := a) (k := k) (cs := cs) (w := w) (rest := rest) ho hw
  rw [Oper.semAt_eq _ _ _ hnd] at hg
  have hro : (b.atR a (.inRegion ops (i :: rest) :: k)).roundOf = none := hb
  refine .one (step_lone_go ?_)
  rw [hg, ← hfin]
  simp [stepG.apply, Sem.runT_eq, hr, GStep.bare_after, hro, ht]

theorem goes_steps {v : Value} {w' : World} (hd : Goes P (execOp a.eval o) w v w') (ho : ops[i]? = some o) (hw : Region.wanted o (yielded ops a.tmps) = true) (hnd : ∀ c, o.op ≠ .defer c) :
    Steps P (lone (b.atR a (.inRegion ops (i :: rest) :: k)) cs w) (lone ((b.atR a (.inRegion ops (i :: rest) :: k)).raise [{ v, recovered := false }]) cs w') := by
  have hg := stepGR_op (P := P) (b := b) (a := a) (k := k) (cs := cs) (w := w) (rest := rest) ho hw
  rw [Oper.semAt_eq _ _ _ hnd] at hg
  cases hd with
  | now h =>
    refine .one (step_lone_go ?_)
    rw [hg]
    simp [stepG.apply, Sem.runT_eq, h, GStep.bare_after]
  | enter h hc =>
    rename_i f args w₁
    have h1 : step P (lone (b.atR a (.inRegion ops (i :: rest) :: k)) cs w) = .next (lone (Frame.enter P f args .normal) (b.atR a (.inRegion ops (i :: rest) :: k) :: cs) w₁) :=
      step_lone_go (by rw [hg]; simp [stepG.apply, Sem.runT_eq, h, GStep.bare_after, Frame.atR])
    exact .head h1 (hc _ cs)

theorem defer_steps {c : Call} {d : Deferred} (ho : ops[i]? = some o) (hw : Region.wanted o (yielded ops a.tmps) = true) (hop : o.op = .defer c) (hb : b.roundOf = none) (hr : (resolve a.eval c o.type).run P w = .ok d w) :
    Steps P (lone (b.atR a (.inRegion ops (i :: rest) :: k)) cs w) (lone (b.atR ({ a with defers := d :: a.defers }.put o.dst undef) (.inRegion ops rest :: k)) cs w) := by
  have hfin : (b.atR { a with defers := d :: a.defers } (.inRegion ops (i :: rest) :: k)).finish undef = b.atR ({ a with defers := d :: a.defers }.put o.dst undef) (.inRegion ops rest :: k) := by
    rw [Frame.finish_atR, ho]; rfl
  have hg := stepGR_op (P := P) (b := b) (a := a) (k := k) (cs := cs) (w := w) (rest := rest) ho hw
  rw [hb, Oper.semAt_none] at hg
  have hx : (execOp a.eval o).run P w = .ok (.defer d) w := by
    unfold execOp; rw [hop]; simp [hr]
  refine .one (step_lone_go ?_)
  rw [hg, ← hfin]
  simp [stepG.apply, Sem.runT_eq, hx, GStep.bare_after, Frame.atR]
end steps

theorem deferOf_rel {f f' : Value} {args args' : List Value} {d : Deferred} (e : deferOf f args = some d) (hf : VRel ρ f f') (ha : VRels ρ args args') :
    ∃ g cap cap' xs xs', d = ⟨.fn (.func g) ⟨cap⟩, ⟨xs⟩⟩ ∧ VRels ρ cap cap' ∧ VRels ρ xs xs' ∧ (Deferred.ofValue f' ⟨args'⟩).run P w = .ok ⟨.fn (.func g) ⟨cap'⟩, ⟨xs'⟩⟩ w := by
  unfold deferOf at e
  split at e
  · rename_i fn first captured
    split at e
    · rename_i g
      cases e
      cases hf with
      | fn hp h1 h2 =>
        rename_i xs ys us vs
        refine ⟨g, ys, vs, xs ++ args, us ++ args', rfl, h2, h1.append ha, ?_⟩
        have : (⟨us⟩ ++ ⟨args'⟩ : Array Value) = ⟨us ++ args'⟩ := by apply Array.ext'; simp
        unfold Deferred.ofValue
        simp [this]
    · cases e
  · cases e

theorem Tr_set_self {α : Type} : ∀ (t : Tr α) (n : Nat) (a : α), t.get n = some a → t.set n a = t
  | .lf, n, a, h => by rw [Tr.get_lf] at h; cases h
  | .nd v l r, n, a, h => by
    rw [Tr.get_nd] at h
    show Tr.turn (Tr.nd (some a) l r) (fun m => Tr.nd v (l.set m a) r) (fun m => Tr.nd v l (r.set m a)) n = _
    cases n with
    | zero =>
      rw [Tr.turn_zero] at h ⊢
      rw [h]
    | succ m =>
      by_cases hm : m % 2 = 0
      · rw [Tr.turn_even _ _ _ hm] at h ⊢
        rw [Tr_set_self l _ _ h]
      · rw [Tr.turn_odd _ _ _ hm] at h ⊢
        rw [Tr_set_self r _ _ h]
theorem forceL_eq {β : Type} : ∀ (l : List Value) (k : List Value → β), forceL l k = k l
  | [], k => rfl
  | v :: l, k => by
    show forceV v (fun v => forceL l fun l => k (v :: l)) = _
    rw [forceV_eq, forceL_eq l]
theorem forceB_eq {β : Type} (h : AHeap) (b : Nat) (k : AHeap → β) : forceB h b k = k h := by
  unfold forceB
  split
  · rename_i c e rw' hg
    rw [forceL_eq, AHeap.setK_eq]
    have : h.set b (.cells c e rw') = h := by
      cases h with
      | mk tr next =>
        show AHeap.mk (tr.set b (.cells c e rw')) next = _
        rw [Tr_set_self tr b _ hg]
    rw [this]
  · rfl
theorem finX_eq (op : Op) (ev : Operand → Value) (r : ResV) : finX op ev r = r := by
  unfold finX
  split
  · split
    · rw [forceB_eq]
    · rfl
  · rfl

/-- how a run panics -/
def Ends (P : Program) (base : Nat) (b : Frame) (K : Bool → List Frame → List Frame) (ρ : Ren) (tr : Tr Value) (h : AHeap) (a : Act) (w : World) (todo : List Item) (q : Option Value) (v : Value) (l' : Loc) (h' : AHeap) (q' : Option Value) (ds' : List Deferred) : Prop :=
  ∃ ρ' w' a' v' todo', (∀ cs, Steps P (lone (b.atR a todo) (K q.isSome cs) w) (lone ((b.atR a' todo').raise [{ v := v', recovered := false }]) (K q'.isSome cs) w')) ∧ Went P base ρ h w ρ' h' w' ∧ VRel ρ' v v' ∧ EnvRel ρ' l' tr a'.tmps ∧ a'.tmps.size = a.tmps.size ∧ DRels ρ' ds' a'.defers ∧ KRel ρ' q' b.kind K ∧ (q' = none ∨ q' = q)

/-- how a region is left -/
def Walks (P : Program) (base : Nat) (b : Frame) (K : Bool → List Frame → List Frame) (ρ : Ren) (tr : Tr Value) (h : AHeap) (a : Act) (w : World) (todo todo' : List Item) (q : Option Value) (l' : Loc) (h' : AHeap) (q' : Option Value) (ds' : List Deferred) : Prop :=
  ∃ ρ' w' a', (∀ cs, Steps P (lone (b.atR a todo) (K q.isSome cs) w) (lone (b.atR a' todo') (K q'.isSome cs) w')) ∧ Went P base ρ h w ρ' h' w' ∧ EnvRel ρ' l' tr a'.tmps ∧ a'.tmps.size = a.tmps.size ∧ DRels ρ' ds' a'.defers ∧ KRel ρ' q' b.kind K ∧ (q' = none ∨ q' = q)

theorem or_trans {α : Type} {q q₁ q' : Option α} (h1 : q₁ = none ∨ q₁ = q) (h2 : q' = none ∨ q' = q₁) : q' = none ∨ q' = q := by
  rcases h2 with h | h
  · exact .inl h
  · rw [h]; exact h1

section region
variable {b : Frame} {K : Bool → List Frame → List Frame} {tr : Tr Value} {h h₁ h' : AHeap} {a a₁ : Act} {todo todo₁ todo' : List Item} {q q₁ q' : Option Value} {ds' : List Deferred} {ρ₁ : Ren} {w₁ : World}

theorem Ends.after {v : Value} {l' : Loc} (s : ∀ cs, Steps P (lone (b.atR a todo) (K q.isSome cs) w) (lone (b.atR a₁ todo₁) (K q₁.isSome cs) w₁)) (g : Went P base ρ h w ρ₁ h₁ w₁) (hsz : a₁.tmps.size = a.tmps.size) (hq : q₁ = none ∨ q₁ = q) (e : Ends P base b K ρ₁ tr h₁ a₁ w₁ todo₁ q₁ v l' h' q' ds') : Ends P base b K ρ tr h a w todo q v l' h' q' ds' := by
  obtain ⟨ρ', w', a', v', todo', s2, g2, r, ev, z, d, kk, o⟩ := e
  exact ⟨ρ', w', a', v', todo', fun cs => (s cs).trans (s2 cs), g.trans g2, r, ev, z.trans hsz, d, kk, or_trans hq o⟩
theorem Walks.after {l' : Loc} (s : ∀ cs, Steps P (lone (b.atR a todo) (K q.isSome cs) w) (lone (b.atR a₁ todo₁) (K q₁.isSome cs) w₁)) (g : Went P base ρ h w ρ₁ h₁ w₁) (hsz : a₁.tmps.size = a.tmps.size) (hq : q₁ = none ∨ q₁ = q) (e : Walks P base b K ρ₁ tr h₁ a₁ w₁ todo₁ todo' q₁ l' h' q' ds') : Walks P base b K ρ tr h a w todo todo' q l' h' q' ds' := by
  obtain ⟨ρ', w', a', s2, g2, r, z, d, kk, o⟩ := e
  exact ⟨ρ', w', a', fun cs => (s cs).trans (s2 cs), g.trans g2, r, z.trans hsz, d, kk, or_trans hq o⟩
end region

theorem runX_nil (x : InvX) (size : Nat) (ops : List Oper) (tr : Tr Value) (l : Loc) (h : AHeap) (q : Option Value) (ds : List Deferred) : runX P x size ops tr [] l h q ds = .ok l h q ds := rfl
theorem runX_cons (x : InvX) (size : Nat) (ops : List Oper) (tr : Tr Value) (o : Oper) (rest : List Oper) (l : Loc) (h : AHeap) (q : Option Value) (ds : List Deferred) :
    runX P x size ops tr (o :: rest) l h q ds = match wantX ops o l tr with
      | some true => goX P x size o tr l h q ds (runX P x size ops tr rest)
      | some false => runX P x size ops tr rest (putL size o.dst undef l) h q ds
      | none => .no := by
  show (match wantX ops o l tr with
      | some b => Bool.rec (motive := fun _ => ResR) (runX P x size ops tr rest (putL size o.dst undef l) h q ds) (goX P x size o tr l h q ds (runX P x size ops tr rest)) b
      | none => .no) = _
  cases wantX ops o l tr with
  | none => rfl
  | some b => cases b <;> rfl

theorem wantX_sound {ops : Array Oper} {o : Oper} {l : Loc} {tr : Tr Value} {tmps : Array Value} {r : Bool} (henv : EnvRel ρ l tr tmps) (e : wantX ops.toList o l tr = some r) : Region.wanted o (yielded ops tmps) = r := by
  unfold wantX at e
  split at e
  · rename_i hg
    cases e
    simp [Region.wanted, hg]
  · rename_i j want hg
    simp only [Region.wanted, hg]
    exact wants_sound henv e

/-- what a region comes to is right -/
def RegOk (P : Program) (base : Nat) (b : Frame) (K : Bool → List Frame → List Frame) (ρ : Ren) (tr : Tr Value) (h : AHeap) (a : Act) (w : World) (todo todo' : List Item) (q : Option Value) : ResR → Prop
  | .ok l' h' q' ds' => Walks P base b K ρ tr h a w todo todo' q l' h' q' ds'
  | .pan v l' h' q' ds' => Ends P base b K ρ tr h a w todo q v l' h' q' ds'
  | .no => True

theorem RegOk.after {b : Frame} {K : Bool → List Frame → List Frame} {tr : Tr Value} {h h₁ : AHeap} {a a₁ : Act} {todo todo₁ todo' : List Item} {q q₁ : Option Value} {ρ₁ : Ren} {w₁ : World} {r : ResR}
    (s : ∀ cs, Steps P (lone (b.atR a todo) (K q.isSome cs) w) (lone (b.atR a₁ todo₁) (K q₁.isSome cs) w₁)) (g : Went P base ρ h w ρ₁ h₁ w₁) (hsz : a₁.tmps.size = a.tmps.size) (hq : q₁ = none ∨ q₁ = q) (e : RegOk P base b K ρ₁ tr h₁ a₁ w₁ todo₁ todo' q₁ r) : RegOk P base b K ρ tr h a w todo todo' q r := by
  cases r with
  | ok l' h' q' ds' => exact Walks.after s g hsz hq e
  | pan v l' h' q' ds' => exact Ends.after s g hsz hq e
  | no => trivial

theorem recX_cases {h h' : AHeap} {q q' : Option Value} {v : Value} (e : recX h q = .ok v h' q') : h' = h ∧ q' = none ∧ (q = none ∧ v = .nilIface ∨ q = some v) := by
  unfold recX at e
  split at e <;> cases e
  · exact ⟨rfl, rfl, .inr rfl⟩
  · exact ⟨rfl, rfl, .inl ⟨rfl, rfl⟩⟩

/-- operations in the order of the text -/
theorem runX_sound {x : InvX} {ops : Array Oper} {b : Frame} {K : Bool → List Frame → List Frame} {k : List Item} {tr : Tr Value} (hx : XOk P x) (hb : b.roundOf = none) : ∀ (rest : List Oper) (i : Nat) (ρ : Ren) (w : World) (l : Loc) (h : AHeap) (q : Option Value) (ds : List Deferred) (a : Act), i + rest.length = ops.size → ops.toList.drop i = rest →
    Sim P base ρ h w → EnvRel ρ l tr a.tmps → DRels ρ ds a.defers → KRel ρ q b.kind K → RegOk P base b K ρ tr h a w (.inRegion ops (List.range' i rest.length) :: k) k q (runX P x a.tmps.size ops.toList tr rest l h q ds)
  | [], i, ρ, w, l, h, q, ds, a, _, _, st, henv, hds, hK => ⟨ρ, w, a, fun cs => .one stepR_region_end, .refl st, henv, rfl, hds, hK, .inr rfl⟩
  | o :: rest, i, ρ, w, l, h, q, ds, a, hlen, hdrop, st, henv, hds, hK => by
    rw [runX_cons]
    have ho : ops[i]? = some o := by
      have : (ops.toList.drop i)[0]? = some o := by rw [hdrop]; rfl
      rw [List.getElem?_drop, Nat.add_zero] at this
      simpa using this
    have hlen' : i + 1 + rest.length = ops.size := by rw [List.length_cons] at hlen; omega
    have hdrop' : ops.toList.drop (i + 1) = rest := by rw [← List.drop_drop, hdrop]; rfl
    rw [List.length_cons, List.range'_succ]
    cases hw0 : wantX ops.toList o l tr with
    | none => trivial
    | some r =>
      have hw := wantX_sound henv hw0
      cases r with
      | false =>
        dsimp only
        have ih := runX_sound (k := k) hx hb rest (i + 1) ρ w (putL a.tmps.size o.dst undef l) h q ds (a.put o.dst undef) hlen' hdrop' st (henv.put .undef o.dst) (by rw [put_defers]; exact hds) hK
        rw [put_size] at ih
        refine RegOk.after (fun cs => ?_) (.refl st) (put_size _ _ _) (.inr rfl) ih
        have := stepR_op_skip (P := P) (b := b) (a := a) (k := k) (cs := K q.isSome cs) (w := w) (ops := ops) (i := i) (rest := List.range' (i + 1) rest.length) (by simp [ho, hw])
        rw [ho] at this
        exact .one this
      | true =>
        dsimp only
        unfold goX
        cases hd : isDefer o.op with
        | some c =>
          dsimp only
          have hop : o.op = .defer c := by
            revert hd
            cases o.op <;> intro hd <;> cases hd <;> rfl
          cases hdd : deferX (ev l tr) c with
          | none => trivial
          | some d =>
            dsimp only
            have hdf : ∃ f, c.callee = .value f ∧ deferOf (ev l tr f) (evs (ev l tr) c.args.toList) = some d := by
              unfold deferX at hdd
              split at hdd
              · rename_i f hc; exact ⟨f, hc, hdd⟩
              · cases hdd
            obtain ⟨f, hc, hdo⟩ := hdf
            have ha : VRels ρ (evs (ev l tr) c.args.toList) (c.args.map a.eval).toList := by
              rw [Array.toList_map]; exact evs_rel henv.ev _
            obtain ⟨g, cap, cap', xs, xs', rfl, h1, h2, h3⟩ := deferOf_rel (P := P) (w := w) hdo (henv.ev f) ha
            have hres : (resolve a.eval c o.type).run P w = .ok ⟨.fn (.func g) ⟨cap'⟩, ⟨xs'⟩⟩ w := by
              unfold resolve; simp only [hc]; exact h3
            let a₁ : Act := ({ a with defers := ⟨.fn (.func g) ⟨cap'⟩, ⟨xs'⟩⟩ :: a.defers } : Act).put o.dst undef
            have hsz : a₁.tmps.size = a.tmps.size := put_size _ _ _
            have ih := runX_sound (k := k) hx hb rest (i + 1) ρ w (putL a.tmps.size o.dst undef l) h q (⟨.fn (.func g) ⟨cap⟩, ⟨xs⟩⟩ :: ds) a₁ hlen' hdrop' st (EnvRel.put (a := { a with defers := ⟨.fn (.func g) ⟨cap'⟩, ⟨xs'⟩⟩ :: a.defers }) henv .undef o.dst) (by
              show DRels ρ _ (Act.put _ _ _).defers
              rw [put_defers]; exact .fn rfl h1 h2 rfl hds) hK
            rw [hsz] at ih
            exact RegOk.after (fun cs => defer_steps ho hw hop hb hres) (.refl st) hsz (.inr rfl) ih
        | none =>
          dsimp only
          rw [finX_eq]
          cases hop : opX P x o.op (ev l tr) h q with
          | no => trivial
          | pan v h' =>
            dsimp only
            obtain ⟨⟨ρ', v', w', p1, p2, p3⟩, hnd⟩ := opX_pan hx st henv.ev hd hop
            exact ⟨ρ', w', a, v', _, fun cs => goes_steps p1 ho hw hnd, p3, p2, henv.mono p3.le, rfl, hds.mono p3.le, hK.mono p3.le, .inr rfl⟩
          | ok v h' q' =>
            dsimp only
            rw [forceV_eq]
            obtain ⟨h1, hnd⟩ := opX_ok hx st henv.ev hd hop
            rcases h1 with ⟨⟨ρ₁, v', w₁, d1, r1, g1⟩, rfl⟩ | ⟨hr, hrec⟩
            · have ih := runX_sound (k := k) hx hb rest (i + 1) ρ₁ w₁ (putL a.tmps.size o.dst v l) h' q' ds (a.put o.dst v') hlen' hdrop' g1.sim ((henv.mono g1.le).put r1 o.dst) (by rw [put_defers]; exact hds.mono g1.le) (hK.mono g1.le)
              rw [put_size] at ih
              exact RegOk.after (fun cs => does_steps d1 ho hw hnd) g1 (put_size _ _ _) (.inr rfl) ih
            · obtain ⟨rfl, rfl, hc⟩ := recX_cases hrec
              rcases hc with ⟨rfl, rfl⟩ | rfl
              · have ih := runX_sound (k := k) hx hb rest (i + 1) ρ w (putL a.tmps.size o.dst .nilIface l) h' none ds (a.put o.dst .nilIface) hlen' hdrop' st (henv.put .nilIface o.dst) (by rw [put_defers]; exact hds) hK
                rw [put_size] at ih
                exact RegOk.after (fun cs => recover_none ho hw hnd hb hr (hK.1 _ cs rfl)) (.refl st) (put_size _ _ _) (.inr rfl) ih
              · obtain ⟨v', hv, ht⟩ := hK.2 v rfl
                have ih := runX_sound (k := k) hx hb rest (i + 1) ρ w (putL a.tmps.size o.dst v l) h' none ds (a.put o.dst v') hlen' hdrop' st (henv.put hv o.dst) (by rw [put_defers]; exact hds) hK.off
                rw [put_size] at ih
                exact RegOk.after (q₁ := none) (fun cs => recover_some ho hw hnd hb hr (ht _ cs rfl)) (.refl st) (put_size _ _ _) (.inl rfl) ih
end Go.Ev
