/- Range over functions: the loop's record, seen from outside. -/
import Derived.Test.YtocpjjngpfjgpaaDoorW9
set_option linter.unusedSimpArgs false
set_option linter.unusedVariables false
namespace Go.Ev
/-- what may be done with a loop's record -/
structure Lp (F : Fx) (E : Loc) (ps : Array Tmp) (assign body : Code) (l : Nat) (L : AHeap → LoopState → Option Code → Prop) : Prop where
  of : ∀ {H H' : AHeap} {st : LoopState} {pend : Option Code}, L H st pend → H'.get l = H.get l → L H' st pend
  yield : ∀ {args : List Value} {H : AHeap} {Q : Value → AHeap → Prop} {st : LoopState} {pend : Option Code}, L H st pend → Nat.beq args.length ps.toList.length = true → slotsOk F.size ps.toList = true →
    Wk (F.inRound l ps) (putLs ps.toList args E) [] H [.code assign, .beginRound, .code body] (fun _ _ h' todo => RoundP l todo h' Q) → Wc F.p (.yield l) args H Q
  start : ∀ {F' : Fx} {E' : Loc} {ds : List Deferred} {H : AHeap} {k : List Item} {Q : Loc → List Deferred → AHeap → List Item → Prop} {pend : Option Code}, F'.round = some l → L H .ready pend →
    (∀ H', H'.next = H.next → (∀ b, b ≠ l → H'.get b = H.get b) → L H' .busy pend → Wk F' E' ds H' k Q) → Wk F' E' ds H (.beginRound :: k) Q
  next : ∀ {H : AHeap} {Q : Value → AHeap → Prop} {st : LoopState} {pend : Option Code}, L H st pend → (∀ H', H'.next = H.next → (∀ b, b ≠ l → H'.get b = H.get b) → L H' .ready none → Q (.bool true) H') → RoundP l [] H Q
  out : ∀ {H : AHeap} {Q : Value → AHeap → Prop} {st : LoopState} {pend : Option Code} {c : Code} {k : List Item}, L H st pend → (∀ H', H'.next = H.next → (∀ b, b ≠ l → H'.get b = H.get b) → L H' .done (some c) → Q (.bool false) H') → RoundP l (.code c :: k) H Q

theorem lp_of (F : Fx) (E : Loc) (ps : Array Tmp) (assign body : Code) (d l : Nat) : Lp F E ps assign body l fun H st pend => LoopAt F E ps assign body d H l st pend where
  of a e := LoopAt.of a e
  yield a h1 h2 w := wc_yield rfl a h1 h2 w
  start hr a w := wk_begin hr a w
  next a q := round_next a q
  out a q := round_out a q

theorem wk_rangeL {F : Fx} {E : Loc} {ds : List Deferred} {h : AHeap} {k : List Item} {Q : Loc → List Deferred → AHeap → List Item → Prop} {f : Operand} {ps : Array Tmp} {assign body : Code} (hr : F.round = none)
    (w : ∀ (L : AHeap → LoopState → Option Code → Prop) (H : AHeap), Lp F E ps assign body (h.next + 1) L → H.next = h.next + 2 → (∀ b, b < h.next → H.get b = h.get b) → H.get h.next = some (.deferred (some [])) → L H .ready none →
      CallP F.p (evE E f) [.func (.yield (h.next + 1)) #[] #[]] H fun _ H' => ∃ st pend, st ≠ .busy ∧ L H' st pend ∧
        ∀ H'', H''.next = H'.next → (∀ b, b ≠ h.next + 1 → H''.get b = H'.get b) → Wk F E ({ target := .collected h.next, args := #[] } :: ds) H'' (todoOf pend k) Q) :
    Wk F E ds h (.code (.rangeFunc f ps assign body) :: k) Q :=
  wk_range hr fun H h1 h2 h3 h4 => w _ H (lp_of F E ps assign body h.next (h.next + 1)) h1 h2 h3 h4
theorem putLs2 (t u : Tmp) (a b : Value) (E : Loc) : putLs #[t, u].toList [a, b] E = .cons u b (.cons t a E) := rfl
theorem todo_none (k : List Item) : todoOf none k = k := rfl
theorem todo_some (c : Code) (k : List Item) : todoOf (some c) k = .code c :: k := rfl
end Go.Ev
