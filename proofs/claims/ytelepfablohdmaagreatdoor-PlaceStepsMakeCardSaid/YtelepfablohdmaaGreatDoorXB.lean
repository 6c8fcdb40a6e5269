/- Known calls that come to a list of plain values: what stands in for them. -/
import Derived.Test.YtelepfablohdmaaGreatDoorXA
import Derived.Test.YtelepfablohdmaaGreatDoorW1
set_option linter.unusedSimpArgs false
set_option linter.unusedVariables false
/- The evaluator: a function that defers one function, with the calls of an evaluator without panics; it stands in for itself. -/
namespace Go.Ev
noncomputable section
variable {P : Program} {base : Nat} {ρ : Ren} {w : World}

end
end Go.Ev
namespace Go.Ev
noncomputable section
variable {P : Program} {base : Nat} {ρ : Ren} {w : World}

/-- a call and the list that it comes to: where the list begins in its block, how long it is, its capacity, the block's cells and their type -/
structure KL where
  f : Nat
  args : List Value
  off : Nat
  n : Nat
  cap : Nat
  cells : List Value
  e : TypeId

/-- the call comes to this list, in a new block, in every world, and changes nothing -/
def KnowsL (P : Program) (k : KL) : Prop :=
  (∀ a ∈ k.args, pl2 a = true) ∧ (∀ a ∈ k.cells, pl2 a = true) ∧ (∃ fn body, P.funcs[k.f]? = some fn ∧ fn.body = some body) ∧ ∀ w : World, ∃ (w' : World) (a' : Addr) (c' : Nat) (p : Place),
    (∀ cs, ∃ fr, Steps P (lone (Frame.enter P k.f k.args.toArray .normal) cs w) (lone fr cs w') ∧ fr.leaving P w' (.returned (.slice (some a') k.n c'))) ∧ RowKit.Below w.heap.size w w' ∧
    w.heap.size ≤ p.block ∧ p.block < w'.heap.size ∧ a'.spot = none ∧ a'.block = p.block ∧ a'.off = k.off + p.off ∧ capRel k.cap c' ∧ k.n ≤ capLo k.cap ∧ (isEx k.cap = true ∨ k.off + p.off + c' * p.esz ≤ p.total) ∧
    ∃ (cs : Array Value) (e' : TypeId) (fz : Nat × Nat), w'.heap[p.block]? = some (.cells cs e' fz) ∧ p.esz = P.cellsOf k.e ∧ p.total = cs.size ∧ (p.off + k.cells.length ≤ cs.size ∧ ∀ i v, k.cells[i]? = some v → cs[p.off + i]? = some v)

def listX : List KL → Inv → Inv
  | [], _ => fun _ _ _ => none
  | k :: M, i => fun fn args h => match fn with
    | .func f => cond (Nat.beq k.f f && eqs eq2 k.args args) (some (.slice (some ⟨h.next, k.off, none⟩) k.n k.cap, h.new (.cells k.cells k.e false))) (listX M i fn args h)
    | _ => none

theorem Sim.knows {k : KL} (hk : KnowsL P k) {h : AHeap} (st : Sim P base ρ h w) (hnum : NoNum P) : Done P base ρ h w (invoke (.fn (.func k.f) #[]) k.args.toArray) (.slice (some ⟨h.next, k.off, none⟩) k.n k.cap) (h.new (.cells k.cells k.e false)) := by
  obtain ⟨_, hpl, ⟨fn, body, hf, hb⟩, hw⟩ := hk
  obtain ⟨w', a', c', p, hs, hbl, hp1, hp2, ha1, ha2, ha3, hc, hn, hx, cs, e', fz, hcell, hesz, htot, hlen, hcs⟩ := hw w
  have hnone : ρ h.next = none := st.unmet
  have hle := Ren.le_put (p := p) hnone
  have hsame : ∀ c, c < w.heap.size → w'.heap[c]? = w.heap[c]? := hbl.block
  refine ⟨ρ.put h.next p, .slice (some a') k.n c', w', .enter (run_enter hnum hf hb) fun c cs => ?_, ?_, ⟨⟨⟨?_, ?_, ?_, ?_⟩, ?_, ?_⟩, ⟨hle, ?_, ?_, ?_, ?_, ?_, Ren.full_put _⟩⟩⟩
  · obtain ⟨fr, j1, j2⟩ := hs (c :: cs)
    exact j1.trans (.one (step_leave_returned j2))
  · exact .sl ⟨rfl, ha1, p, Ren.put_self _ _ _, ha2, ha3⟩ hc hn (Ren.put_self _ _ _) hx
  · intro b q hq
    by_cases e1 : h.next = b
    · subst e1
      rw [Ren.put_self] at hq; cases hq
      refine ⟨_, by rw [get_new, if_pos rfl], ?_⟩
      rw [hcell]
      have hr : (false = true → e' = k.e ∧ fz = (0, 0)) ∧ p.esz = P.cellsOf k.e ∧ p.total = cs.size ∧ CRel (ρ.put h.next p) k.cells cs p.off :=
        ⟨fun h => (by cases h), hesz, htot, hlen, fun i v hv => ⟨v, hcs i v hv, pl2_rel _ (hpl v (List.mem_of_getElem? hv))⟩⟩
      exact hr
    · rw [Ren.put_ne _ _ e1] at hq
      obtain ⟨o, h1, h2⟩ := st.rel.obj b q hq
      exact ⟨o, by rw [get_new, if_neg e1]; exact h1, by rw [hsame _ (st.rel.size b q hq)]; exact h2.mono hle⟩
  · intro b₁ b₂ p₁ p₂ o₁ o₂ h1 h2 g1 g2 l1 l2 hp
    by_cases e1 : h.next = b₁
    · rw [get_new, if_pos e1] at g1; cases g1; cases l1
    · rw [get_new, if_neg e1] at g1
      rw [Ren.put_ne _ _ e1] at h1
      by_cases e2 : h.next = b₂
      · subst e2
        rw [Ren.put_self] at h2; cases h2
        have := st.rel.size _ _ h1
        omega
      · rw [get_new, if_neg e2] at g2
        rw [Ren.put_ne _ _ e2] at h2
        exact st.rel.inj _ _ _ _ _ _ h1 h2 g1 g2 l1 l2 hp
  · intro b q hq
    by_cases e1 : h.next = b
    · subst e1
      rw [Ren.put_self] at hq; cases hq
      exact hp2
    · rw [Ren.put_ne _ _ e1] at hq
      exact Nat.lt_of_lt_of_le (st.rel.size b q hq) hbl.size
  · intro b q o hq ho hrw
    by_cases e1 : h.next = b
    · rw [get_new, if_pos e1] at ho; cases ho; cases hrw
    · rw [Ren.put_ne _ _ e1] at hq
      rw [get_new, if_neg e1] at ho
      exact st.rel.lo b q o hq ho hrw
  · intro b hb
    have hb' : Nat.succ h.next ≤ b := hb
    rw [get_new, if_neg (by omega)]
    exact st.void b (by omega)
  · exact Nat.le_trans st.room hbl.size
  · exact ⟨hbl.os, hbl.tape, hbl.output, hbl.size, fun c hc => hsame c (Nat.lt_of_lt_of_le hc st.room)⟩
  · exact fun c hc _ => hsame c hc
  · intro b q hq hn
    by_cases e1 : h.next = b
    · subst e1
      rw [Ren.put_self] at hq; cases hq
      exact ⟨Nat.le_refl _, .inl hp1⟩
    · rw [Ren.put_ne _ _ e1, hn] at hq; cases hq
  · exact Nat.le_succ _
  · intro b hb _
    rw [get_new, if_neg (by omega)]

theorem listX_good : ∀ {M : List KL}, (∀ k ∈ M, KnowsL P k) → (NoNum P) → XGood P (listX M)
  | [], _, _ => fun i hi base ρ w fn fn' args args' h h' v e _ _ _ => by cases e
  | k :: M, hM, hnum => fun i hi base ρ w fn fn' args args' h h' v e hfn ha st => by
    cases fn with
    | func f =>
      have e0 : cond (Nat.beq k.f f && eqs eq2 k.args args) (some (.slice (some ⟨h.next, k.off, none⟩) k.n k.cap, h.new (.cells k.cells k.e false))) (listX M i (.func f) args h) = some (v, h') := e
      cases hb : (Nat.beq k.f f && eqs eq2 k.args args) with
      | false =>
        rw [hb, cond_false] at e0
        exact listX_good (fun k hk => hM k (.tail _ hk)) hnum i hi base ρ w _ fn' args args' h h' v e0 hfn ha st
      | true =>
        rw [hb, cond_true] at e0
        cases e0
        obtain ⟨k1, k2⟩ := ble_and hb
        have hK := hM k (.head _)
        have hf := Nat.eq_of_beq_eq_true k1
        have hargs := eqs_eq (fun _ _ => eq2_eq) k2
        have hfn' : fn' = .func f := by
          rcases hfn with ⟨g, h1, h2⟩ | ⟨l, p, h1, _⟩
          · cases h1; exact h2
          · cases h1
        subst hfn'
        subst hf
        have ha' : args' = k.args := by
          rw [← hargs] at ha
          exact all_same (fun _ _ => pl2_same) hK.1 ha
        subst ha'
        exact Sim.knows hK st hnum
    | _ => cases e

/-- what a call from the empty heap comes to, as a list -/
def resultL (P : Program) (pm : Prim) (K : List Nat) (M : Memo) (f : FuncId) (args : List Value) : Option KL := match invX P pm K M ⟨STEPS, false, [], noX⟩ 400 .norm (.func f) args (emptyHeap P) with
  | .ok v h _ => match v with
    | .slice (some a) n c => match a.spot with
      | some _ => none
      | none => match h.get a.block with
        | some (.cells cs e _) => some ⟨f, args, a.off, n, c, cs, e⟩
        | _ => none
    | _ => none
  | _ => none
/-- a result is this list -/
def isL (r : Option KL) (k : KL) : Bool := match r with
  | some u => Nat.beq u.f k.f && (eqs eq2 u.args k.args && (Nat.beq u.off k.off && (Nat.beq u.n k.n && (Nat.beq u.cap k.cap && (eqs eq2 u.cells k.cells && Nat.beq u.e k.e)))))
  | none => false
theorem isL_eq {r : Option KL} {k : KL} (h : isL r k = true) : r = some k := by
  cases r with
  | none => cases h
  | some u =>
    have h' : (Nat.beq u.f k.f && (eqs eq2 u.args k.args && (Nat.beq u.off k.off && (Nat.beq u.n k.n && (Nat.beq u.cap k.cap && (eqs eq2 u.cells k.cells && Nat.beq u.e k.e)))))) = true := h
    obtain ⟨h1, h'⟩ := ble_and h'
    obtain ⟨h2, h'⟩ := ble_and h'
    obtain ⟨h3, h'⟩ := ble_and h'
    obtain ⟨h4, h'⟩ := ble_and h'
    obtain ⟨h5, h'⟩ := ble_and h'
    obtain ⟨h6, h7⟩ := ble_and h'
    obtain ⟨a, b, c, d, e, g, i⟩ := u
    obtain ⟨a', b', c', d', e', g', i'⟩ := k
    have := Nat.eq_of_beq_eq_true h1
    have := eqs_eq (fun _ _ => eq2_eq) h2
    have := Nat.eq_of_beq_eq_true h3
    have := Nat.eq_of_beq_eq_true h4
    have := Nat.eq_of_beq_eq_true h5
    have := eqs_eq (fun _ _ => eq2_eq) h6
    have := Nat.eq_of_beq_eq_true h7
    simp_all
theorem knowsL_of {pm : Prim} {K : List Nat} {M : Memo} {k : KL} (hM : MemoOk P M) (hmo : memoAt M k.f k.args = none) (hpm : PrimOk P pm) (hm : P.follows .mixedOrders = true) (hnum : NoNum P) (hK : ShutAll P K) (hno : isIn K k.f = false) (hbd : hasBody P k.f = true) (ha : allB pl2 k.args = true) (hv : allB pl2 k.cells = true) (hr : isL (resultL P pm K M k.f k.args) k = true) : KnowsL P k := by
  obtain ⟨fn0, body0, h1, h2⟩ := hasBody_spec hbd
  refine ⟨allB_mem ha, allB_mem hv, ⟨fn0, body0, h1, h2⟩, fun w => ?_⟩
  have hr := isL_eq hr
  have hb0 : funcAt P k.f = some (fn0, body0) := by
    unfold funcAt
    rw [nth_eq, show P.funcs.toList[k.f]? = some fn0 by simpa using h1]
    dsimp only
    rw [h2]
  unfold resultL at hr
  have e0 := invX_func (P := P) pm K M ⟨STEPS, false, [], noX⟩ 399 .norm k.f k.args (emptyHeap P)
  rw [hmo] at e0
  dsimp only at e0
  rw [e0, hno, Bool.false_and, Bool.false_and, cond_false, hb0] at hr
  dsimp only at hr
  have hs := enterX_sound (o := ⟨STEPS, false, [], noX⟩) (m := .norm) (h := emptyHeap P) (args := k.args) (args' := k.args) hm hnum (invX_ok (o := ⟨STEPS, false, [], noX⟩) hpm hm hnum hK hM 399) h1 h2 (all_rel (fun _ => pl2_rel _) (allB_mem ha)) (sim_empty P w) (krel_norm _)
  revert hr hs
  generalize enterX P ⟨STEPS, false, [], noX⟩ (invX P pm K M ⟨STEPS, false, [], noX⟩ 399) .norm k.f fn0 body0 k.args (emptyHeap P) = r
  intro hr hs
  cases r with
  | ok u h' q' =>
    obtain ⟨ρ', v', w', s, hvr, g, _⟩ := hs
    cases u with
    | slice ao n c =>
      cases ao with
      | none => cases hr
      | some a =>
        cases hsp : a.spot with
        | some x =>
          have hr0 : (match a.spot with
            | some _ => none
            | none => match h'.get a.block with
              | some (.cells cs e _) => some (⟨k.f, k.args, a.off, n, c, cs, e⟩ : KL)
              | _ => none) = some k := hr
          rw [hsp] at hr0
          cases hr0
        | none =>
        have hr0 : (match a.spot with
            | some _ => none
            | none => match h'.get a.block with
              | some (.cells cs e _) => some (⟨k.f, k.args, a.off, n, c, cs, e⟩ : KL)
              | _ => none) = some k := hr
        rw [hsp] at hr0
        have hr' : (match h'.get a.block with | some (.cells cs e _) => some (⟨k.f, k.args, a.off, n, c, cs, e⟩ : KL) | _ => none) = some k := hr0
        clear hr hr0
        cases hg : h'.get a.block with
        | none => rw [hg] at hr'; cases hr'
        | some ob =>
          rw [hg] at hr'
          cases ob with
          | cells cs e rw1 =>
            have h3 : (⟨k.f, k.args, a.off, n, c, cs, e⟩ : KL) = k := Option.some.inj hr'
            clear hr'
            obtain ⟨kf, ka, koff, kn, kc, kcs, ke⟩ := k
            cases h3
            cases hvr with
            | @sl _ a' _ _ c' p har hc hn hp hw =>
              obtain ⟨q1, q2, p', hp', q3, q4⟩ := har
              rw [hp] at hp'; cases hp'
              obtain ⟨o, ho, hrel⟩ := g.sim.rel.obj _ _ hp
              have ho' : h'.get a.block = some o := ho
              rw [hg] at ho'; cases ho'
              have hfresh := (g.ext.fresh _ _ hp rfl).2
              have hfr : w.heap.size ≤ p.block := by
                rcases hfresh with q | ⟨b₀, p₀, q, _⟩
                · exact q
                · cases q
              refine ⟨w', a', c', p, fun cs => ?_, g.ext.below, hfr, g.sim.rel.size _ _ hp, q2, q3, q4, hc, hn, hw, ?_⟩
              · obtain ⟨fr, j1, j4, j2, j3⟩ := s cs
                exact ⟨fr, j1, going_leaving j3 j2⟩
              · revert hrel
                cases hx : w'.heap[p.block]? with
                | none => intro hrel; exact hrel.elim
                | some x =>
                  cases x with
                  | cells cs' e' fz =>
                    rintro ⟨_, z1, z2, z3, z4⟩
                    refine ⟨cs', e', fz, rfl, z1, z2, z3, fun i v hi => ?_⟩
                    obtain ⟨v', y1, y2⟩ := z4 i v hi
                    rw [y1, pl2_same (allB_mem hv v (List.mem_of_getElem? hi)) y2]
                  | _ => intro hrel; exact hrel.elim
            | sj a' c' =>
              cases hsp
          | _ => cases hr'
    | _ => cases hr
  | pan v h' => cases hr
  | no => cases hr
end
end Go.Ev
