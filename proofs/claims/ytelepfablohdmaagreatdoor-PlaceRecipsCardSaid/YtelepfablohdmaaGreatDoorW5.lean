/- Range over functions: the record of a loop, the call of its yield, its rounds. -/
import Derived.Test.YtelepfablohdmaaGreatDoorW4
set_option linter.unusedSimpArgs false
set_option linter.unusedVariables false
namespace Go.Ev

/-- the record of a loop over a function in a frame whose slots are E -/
def LoopAt (F : Fx) (E : Loc) (ps : Array Tmp) (assign body : Code) (d : Nat) (h : AHeap) (l : Nat) (st : LoopState) (pend : Option Code) : Prop :=
  ∃ tr, Agr .nil tr E ∧ h.get l = some (.loop { state := st, pending := pend, fn := F.fn, size := F.size, shared := F.mask, tr := tr, params := ps, assign := assign, body := body, defers := d })

theorem LoopAt.of {F : Fx} {E : Loc} {ps : Array Tmp} {assign body : Code} {d : Nat} {h h' : AHeap} {l : Nat} {st : LoopState} {pend : Option Code} (a : LoopAt F E ps assign body d h l st pend) (e : h'.get l = h.get l) : LoopAt F E ps assign body d h' l st pend := by
  obtain ⟨tr, h1, h2⟩ := a
  exact ⟨tr, h1, e.trans h2⟩

variable {F : Fx} {E : Loc} {ds : List Deferred} {h : AHeap} {k : List Item} {Q : Loc → List Deferred → AHeap → List Item → Prop}

theorem wk_range {f : Operand} {ps : Array Tmp} {assign body : Code} (hr : F.round = none)
    (w : ∀ H : AHeap, H.next = h.next + 2 → (∀ b, b < h.next → H.get b = h.get b) → H.get h.next = some (.deferred (some [])) → LoopAt F E ps assign body h.next H (h.next + 1) .ready none →
      CallP F.p (evE E f) [.func (.yield (h.next + 1)) #[] #[]] H fun _ H' => ∃ st pend, st ≠ .busy ∧ LoopAt F E ps assign body h.next H' (h.next + 1) st pend ∧
        ∀ H'', H''.next = H'.next → (∀ b, b ≠ h.next + 1 → H''.get b = H'.get b) → Wk F E ({ target := .collected h.next, args := #[] } :: ds) H'' (todoOf pend k) Q) :
    Wk F E ds h (.code (.rangeFunc f ps assign body) :: k) Q := by
  intro tr ha
  have w1 := w ((h.new (.deferred (some []))).new (.loop { state := .ready, pending := none, fn := F.fn, size := F.size, shared := F.mask, tr := tr, params := ps, assign := assign, body := body, defers := h.next })) rfl
    (fun b hb => by rw [get_new, if_neg (by show ¬ h.next + 1 = b; omega), get_new, if_neg (by omega)])
    (by rw [get_new, if_neg (by show ¬ h.next + 1 = h.next; omega), get_new, if_pos rfl]) ⟨tr, ha, by rw [get_new]; exact if_pos rfl⟩
  obtain ⟨v, H', ⟨N, hN⟩, st, pend, hst, ⟨tr', ha', hl⟩, wk⟩ := callP_inv w1
  obtain ⟨stt, E', ha'', ⟨N', hN'⟩, q⟩ := wk (H'.set (h.next + 1) (.loop { state := .exhausted, pending := pend, fn := F.fn, size := F.size, shared := F.mask, tr := tr', params := ps, assign := assign, body := body, defers := h.next })) rfl
    (fun b hb => by rw [get_setH, if_neg (fun e => hb e.symm)]) tr ha
  refine ⟨stt, E', ha'', ⟨max N N' + 1, fun n S m hn hS hm => ?_⟩, q⟩
  obtain ⟨m, rfl⟩ : ∃ m', m = m' + 1 := ⟨m - 1, by omega⟩
  rw [runF_cons]
  have hx : rangeNx (F.ctx n S) tr ds h (ev .nil tr f) ps assign body k = .set tr (H'.set (h.next + 1) (.loop { state := .exhausted, pending := pend, fn := F.fn, size := F.size, shared := F.mask, tr := tr', params := ps, assign := assign, body := body, defers := h.next })) (todoOf pend k) ({ target := .collected h.next, args := #[] } :: ds) := by
    unfold rangeNx
    have e1 : (F.ctx n S).round = none := hr
    rw [e1]
    have e2 : loopCall (F.ctx n S) (ev .nil tr f) (Nat.succ h.next) ((h.new (.deferred (some []))).new (loopOf (F.ctx n S) tr ps assign body h.next)) = some (v, H') := by
      rw [evE_eq ha]
      exact hN n S (by omega) (by omega)
    dsimp only
    rw [e2]
    dsimp only
    unfold endNx
    have e3 : H'.get (Nat.succ h.next) = some (.loop { state := st, pending := pend, fn := F.fn, size := F.size, shared := F.mask, tr := tr', params := ps, assign := assign, body := body, defers := h.next }) := hl
    rw [e3]
    dsimp only
    cases st with
    | busy => exact absurd rfl hst
    | _ => rw [AHeap.setK_eq]; rfl
  show nextF tr ds h _ k _ (rangeNx (F.ctx n S) tr ds h (ev .nil tr f) ps assign body k) = _
  rw [hx]
  exact hN' n S m (by omega) (by omega) (by omega)

/-! ### rounds -/
def putLs : List Tmp → List Value → Loc → Loc
  | t :: ts, v :: vs, E => putLs ts vs (.cons t v E)
  | _, _, E => E
theorem putLs_nil (vs : List Value) (E : Loc) : putLs [] vs E = E := by cases vs <;> rfl
theorem putAll_agr : ∀ (ps : List Tmp) (vs : List Value) {tr : Tr Value} {E : Loc}, Agr .nil tr E → Agr .nil (putAll ps vs tr) (putLs ps vs E)
  | [], vs, tr, E, ha => by rw [putLs_nil]; cases vs <;> exact ha
  | t :: ts, [], tr, E, ha => ha
  | t :: ts, v :: vs, tr, E, ha => by
    refine putAll_agr ts vs (tr := tr.set t v) (E := .cons t v E) fun t' => ?_
    show got ((tr.set t v).get t') = (Loc.cons t v E).look t' top
    rw [Tr.get_set, look_cons]
    by_cases e : t = t'
    · rw [if_pos e, if_pos e]; rfl
    · rw [if_neg e, if_neg e]; exact ha t'

theorem full_lor {size a b : Nat} (h : ∀ t, t < size → bitOf a t = true) : ∀ t, t < size → bitOf (Nat.lor a b) t = true := fun t ht => by
  have := h t ht
  rw [bitOf_eq] at this ⊢
  show (a ||| b).testBit t = true
  rw [Nat.testBit_or, this, Bool.true_or]

/-- a round's frame -/
def Fx.inRound (F : Fx) (l : Nat) (ps : Array Tmp) : Fx := ⟨F.p, F.fn, F.size, some l, Nat.lor F.mask (paramsMask ps.toList), full_lor F.full⟩
theorem inRound_p (F : Fx) (l : Nat) (ps : Array Tmp) : (F.inRound l ps).p = F.p := rfl
theorem inRound_size (F : Fx) (l : Nat) (ps : Array Tmp) : (F.inRound l ps).size = F.size := rfl

/-- how a round ends -/
def RoundP (l : Nat) (todo : List Item) (h : AHeap) (Q : Value → AHeap → Prop) : Prop :=
  match todo with
  | [] => ∃ r, h.get l = some (.loop r) ∧ Q (.bool true) (h.set l (r.with .ready none))
  | .code c :: _ => ∃ r, h.get l = some (.loop r) ∧ Q (.bool false) (h.set l (r.with .done (some c)))
  | _ => False

theorem wc_yield {p : Pr} {l : Nat} {args : List Value} {Q : Value → AHeap → Prop} {ps : Array Tmp} {assign body : Code} {d : Nat} {st : LoopState} {pend : Option Code} (hp : F.p = p) (hl : LoopAt F E ps assign body d h l st pend)
    (hlen : Nat.beq args.length ps.toList.length = true) (hs : slotsOk F.size ps.toList = true)
    (w : Wk (F.inRound l ps) (putLs ps.toList args E) [] h [.code assign, .beginRound, .code body] fun _ _ h' todo => RoundP l todo h' Q) : Wc p (.yield l) args h Q := by
  subst hp
  obtain ⟨tr, ha, hg⟩ := hl
  obtain ⟨stt, E', ha', ⟨N, hN⟩, q⟩ := w _ (putAll_agr ps.toList args ha)
  have key : ∀ n S, N ≤ n → N ≤ S → enterR F.p.P ⟨S, true, F.p.L, F.p.X⟩ (F.p.inv n S) l { state := st, pending := pend, fn := F.fn, size := F.size, shared := F.mask, tr := tr, params := ps, assign := assign, body := body, defers := d } args h = roundEnd l stt.todo stt.h := by
    intro n S hn hS
    unfold enterR
    rw [hs]
    have := hN n S S hn hS hS
    have e : runF ⟨F.p.P, F.p.inv n S, F.fn, F.size, some l, Nat.lor F.mask (paramsMask ps.toList)⟩ S (putAll ps.toList args tr) [] h [.code assign, .beginRound, .code body] = some stt := this
    show (match runF ⟨F.p.P, F.p.inv n S, F.fn, F.size, some l, Nat.lor F.mask (paramsMask ps.toList)⟩ S (putAll ps.toList args tr) [] h [.code assign, .beginRound, .code body] with
      | some ⟨_, todo, _, h⟩ => roundEnd l todo h
      | none => none) = _
    rw [e]
  have fin : ∃ v h', roundEnd l stt.todo stt.h = some (v, h') ∧ Q v h' := by
    unfold RoundP at q
    unfold roundEnd
    split at q
    · rename_i e
      obtain ⟨r, hr, q⟩ := q
      rw [e, hr]
      exact ⟨_, _, by dsimp only; rw [AHeap.setK_eq], q⟩
    · rename_i c t e
      obtain ⟨r, hr, q⟩ := q
      rw [e, hr]
      exact ⟨_, _, by dsimp only; rw [AHeap.setK_eq], q⟩
    · exact q.elim
  obtain ⟨v, h', e1, q1⟩ := fin
  refine ⟨v, h', ⟨N + 1, fun n S hn hS => ?_⟩, q1⟩
  obtain ⟨n, rfl⟩ : ∃ m', n = m' + 1 := ⟨n - 1, by omega⟩
  show (match h.get l with
      | some (.loop r) => cond (Nat.beq args.length r.params.toList.length) (enterR F.p.P ⟨S, true, F.p.L, F.p.X⟩ (F.p.inv n S) l r args h) none
      | _ => none) = _
  rw [hg]
  dsimp only
  rw [hlen, cond_true, key n S (by omega) (by omega), e1]

theorem wk_begin {F0 : Fx} {E0 : Loc} {ps : Array Tmp} {assign body : Code} {d l : Nat} {pend : Option Code} (hr : F.round = some l) (hl : LoopAt F0 E0 ps assign body d h l .ready pend)
    (w : ∀ H, H.next = h.next → (∀ b, b ≠ l → H.get b = h.get b) → LoopAt F0 E0 ps assign body d H l .busy pend → Wk F E ds H k Q) : Wk F E ds h (.beginRound :: k) Q := by
  obtain ⟨tr0, ha0, hg⟩ := hl
  refine wk_set (fun n S tr => ?_) (w (h.set l (.loop { state := .busy, pending := pend, fn := F0.fn, size := F0.size, shared := F0.mask, tr := tr0, params := ps, assign := assign, body := body, defers := d })) rfl (fun b hb => by rw [get_setH, if_neg (fun e => hb e.symm)]) ⟨tr0, ha0, by rw [get_setH, if_pos rfl]⟩)
  show beginNx (F.ctx n S).round tr ds h k = _
  have e1 : (F.ctx n S).round = some l := hr
  rw [e1]
  unfold beginNx
  dsimp only
  rw [hg]
  dsimp only
  rw [AHeap.setK_eq]
  rfl

theorem round_next {F : Fx} {E : Loc} {ps : Array Tmp} {assign body : Code} {d l : Nat} {st : LoopState} {pend : Option Code} {Q : Value → AHeap → Prop} (hl : LoopAt F E ps assign body d h l st pend)
    (q : ∀ H, H.next = h.next → (∀ b, b ≠ l → H.get b = h.get b) → LoopAt F E ps assign body d H l .ready none → Q (.bool true) H) : RoundP l [] h Q := by
  obtain ⟨tr, ha, hg⟩ := hl
  exact ⟨_, hg, q _ rfl (fun b hb => by rw [get_setH, if_neg (fun e => hb e.symm)]) ⟨tr, ha, by rw [get_setH, if_pos rfl]; rfl⟩⟩
theorem round_out {F : Fx} {E : Loc} {ps : Array Tmp} {assign body : Code} {d l : Nat} {st : LoopState} {pend : Option Code} {c : Code} {k : List Item} {Q : Value → AHeap → Prop} (hl : LoopAt F E ps assign body d h l st pend)
    (q : ∀ H, H.next = h.next → (∀ b, b ≠ l → H.get b = h.get b) → LoopAt F E ps assign body d H l .done (some c) → Q (.bool false) H) : RoundP l (.code c :: k) h Q := by
  obtain ⟨tr, ha, hg⟩ := hl
  exact ⟨_, hg, q _ rfl (fun b hb => by rw [get_setH, if_neg (fun e => hb e.symm)]) ⟨tr, ha, by rw [get_setH, if_pos rfl]; rfl⟩⟩

/-! ### on the way out, a loop's mark among the deferred calls -/
theorem unwind_one {b : Nat} (hb : h.get b = some (.deferred (some []))) : unwindA [{ target := .collected b, args := #[] }] h = some (h.set b (.deferred none)) := by
  unfold unwindA
  dsimp only
  rw [hb]
  rfl
theorem give_ret1 {P : Program} {rs : List ResultVar} {Q : Value → AHeap → Prop} {b : Nat} (hb : h.get b = some (.deferred (some []))) (q : ResP (resEs P E (h.set b (.deferred none)) rs) fun v => Q v (h.set b (.deferred none))) : GiveP P rs Q E [{ target := .collected b, args := #[] }] h (.code .ret :: k) := by
  unfold ResP at q
  split at q
  · rename_i vs hv
    exact ⟨rfl, _, _, unwind_one hb, hv, q⟩
  · exact q.elim
end Go.Ev
