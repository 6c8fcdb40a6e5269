/- attempt and its deferred closure, where nothing panics. -/
import Derived.Test.YtelepfablohdmaaGreatDoorXA
import Derived.Test.YtelepfablohdmaaGreatDoorW1
import Derived.Test.YtelepfablohdmaaGreatDoorW4
import Derived.Test.YtelepfablohdmaaGreatDoorFacts
import Derived.Test.YtelepfablohdmaaGreatDoorP0
set_option linter.unusedSimpArgs false
set_option linter.unusedVariables false
/- The evaluator: a function that defers one function, with the calls of an evaluator without panics; it stands in for itself. -/
namespace Go.Ev
noncomputable section
variable {P : Program} {base : Nat} {ρ : Ren} {w : World}

def noInvX : InvX := fun _ _ _ _ => .no
theorem noInvX_ok (P : Program) : XOk P noInvX :=
  ⟨fun base ρ w fn fn' args args' h h' v e _ _ _ => (by cases e), fun base ρ w g args args' h h' v e _ _ => (by cases e), fun base ρ w q q' g args args' h h' v K e _ _ _ => (by cases e)⟩

/-- the calls of an evaluator without panics, and one deferred function -/
def callD (P : Program) (D : Nat) (i : Inv) : InvX := fun m fn args h =>
  match m with
  | .norm => resOf none (i fn args h)
  | .defd q => match fn with
    | .func g => cond (Nat.beq g D) (match funcAt P g with
      | some (fn, body) => onlyV (.defd q) (enterX P ⟨50, true, [], noX⟩ noInvX (.defd q) g fn body args h)
      | none => .no) .no
    | _ => .no

def attX (P : Program) (A D : Nat) : Inv → Inv := fun i fn args h =>
  match fn with
  | .func f => cond (Nat.beq f A) (match funcAt P f with
    | some (fn, body) => plainR (enterX P ⟨50, true, [], noX⟩ (callD P D i) .norm f fn body args h)
    | none => none) none
  | _ => none

theorem callD_ok {D : Nat} {i : Inv} (hm : P.follows .mixedOrders = true) (hnum : NoNum P) (hi : InvOk P i) : XOk P (callD P D i) := by
  refine ⟨fun base ρ w fn fn' args args' h h' v e hfn ha st => ?_, fun base ρ w f args args' h h' v e ha st => ?_, fun base ρ w q q' f args args' h h' v KK e ha st hKK => ?_⟩
  · have e0 : plainR (resOf none (i fn args h)) = some (v, h') := e
    have e1 : i fn args h = some (v, h') := by
      revert e0
      cases i fn args h with
      | none => intro e0; cases e0
      | some r => intro e0; cases r; cases e0; rfl
    exact hi base ρ w fn fn' args args' h h' v e1 hfn ha st
  · have e0 : resOf none (i (.func f) args h) = .pan v h' := e
    exact (resOf_pan e0).elim
  · have e0 : cond (Nat.beq f D) (match funcAt P f with
      | some (fn, body) => onlyV (.defd q) (enterX P ⟨50, true, [], noX⟩ noInvX (.defd q) f fn body args h)
      | none => .no) .no = ResV.ok v h' q' := e
    cases hD : Nat.beq f D with
    | false => rw [hD] at e0; cases e0
    | true =>
      rw [hD, cond_true] at e0
      cases hfa : funcAt P f with
      | none => rw [hfa] at e0; cases e0
      | some fb =>
        obtain ⟨fn, body⟩ := fb
        rw [hfa] at e0
        dsimp only at e0
        obtain ⟨hf, hb⟩ := funcAt_spec hfa
        have hs := enterX_sound (o := ⟨50, true, [], noX⟩) (m := .defd q) (h := h) (kind := .deferred) (K := KK) hm hnum (noInvX_ok P) hf hb ha st hKK
        revert e0 hs
        generalize enterX P ⟨50, true, [], noX⟩ noInvX (.defd q) f fn body args h = r
        intro e0 hs
        cases r with
        | ok v₁ h₁ q₁ =>
          cases e0
          obtain ⟨ρ', v', w', s, hv, g, hq⟩ := hs
          refine ⟨ρ', v', w', fun cs => ?_, g, hq, fn, body, hf, hb⟩
          obtain ⟨fr, j1, _, j2, j3⟩ := s cs
          exact ⟨fr, j1, j2, j3⟩
        | pan v₁ h₁ => cases e0
        | no => cases e0

theorem attX_good {A D : Nat} (hm : P.follows .mixedOrders = true) (hnum : NoNum P) : XGood P (attX P A D) := by
  intro i hi base ρ w fn fn' args args' h h' v e hfn ha st
  cases fn with
  | func f =>
    have hfn' : fn' = .func f := by
      rcases hfn with ⟨g, h1, h2⟩ | ⟨l, p, h1, _⟩
      · cases h1; exact h2
      · cases h1
    subst hfn'
    have e0 : cond (Nat.beq f A) (match funcAt P f with
      | some (fn, body) => plainR (enterX P ⟨50, true, [], noX⟩ (callD P D i) .norm f fn body args h)
      | none => none) none = some (v, h') := e
    cases hA : Nat.beq f A with
    | false => rw [hA] at e0; cases e0
    | true =>
      rw [hA, cond_true] at e0
      cases hfa : funcAt P f with
      | none => rw [hfa] at e0; cases e0
      | some fb =>
        obtain ⟨fn, body⟩ := fb
        rw [hfa] at e0
        dsimp only at e0
        obtain ⟨hf, hb⟩ := funcAt_spec hfa
        have hs := enterX_sound (o := ⟨50, true, [], noX⟩) (m := .norm) (h := h) hm hnum (callD_ok (D := D) hm hnum hi) hf hb ha st (krel_norm ρ)
        revert e0 hs
        generalize enterX P ⟨50, true, [], noX⟩ (callD P D i) .norm f fn body args h = r
        intro e0 hs
        cases r with
        | ok v₁ h₁ q₁ =>
          cases e0
          obtain ⟨ρ', v', w', s, hv, g, _⟩ := hs
          refine ⟨ρ', v', w', .enter (run_enter hnum hf hb) fun c cs => ?_, hv, g⟩
          obtain ⟨fr, j1, _, j2, j3⟩ := s (c :: cs)
          exact j1.trans (.one (step_leave_returned (going_leaving j3 j2)))
        | pan v₁ h₁ => cases e0
        | no => cases e0
  | _ => cases e
end
end Go.Ev
/- Walks through a frame that defers: one operation after the other. -/
namespace Go.Ev
noncomputable section
variable {P : Program}

theorem runFX_region {c : CtxX} {n : Nat} {tr : Tr Value} {defers ds : List Deferred} {h h' : AHeap} {q q' : Option Value} {i : Nat} {ops : Array Oper} {k : List Item} {l : Loc}
    (hr : runX c.c.P c.x c.c.size ops.toList tr ops.toList .nil h q defers = .ok l h' q' ds) :
    runFX c (n + 1) tr defers h q (.code (.region i ops false) :: k) = runFX c n (l.flushed c.c.shared tr) ds h' q' k := by
  show nextX tr defers h q _ k (runFX c n) (regionX c.c.shared tr k (runX c.c.P c.x c.c.size ops.toList tr ops.toList .nil h q defers)) = _
  rw [hr]
  show nextX tr defers h q _ k (runFX c n) (l.flushK c.c.shared tr fun tr => .set tr h' k ds q') = _
  rw [flushK_eq]
  rfl
theorem runFX_seq {c : CtxX} {n : Nat} {tr : Tr Value} {defers : List Deferred} {h : AHeap} {q : Option Value} {a b : Code} {k : List Item} :
    runFX c (n + 1) tr defers h q (.code (.seq a b) :: k) = runFX c n tr defers h q (.code a :: .code b :: k) := rfl
theorem runFX_ret {c : CtxX} {n : Nat} {tr : Tr Value} {defers : List Deferred} {h : AHeap} {q : Option Value} {k : List Item} :
    runFX c (n + 1) tr defers h q (.code .ret :: k) = .ret tr (.code .ret :: k) defers h q := rfl

theorem runFX_condf {c : CtxX} {n : Nat} {tr : Tr Value} {defers : List Deferred} {h : AHeap} {q : Option Value} {v : Operand} {a b : Code} {k : List Item} (e : ev .nil tr v = .bool false) :
    runFX c (n + 1) tr defers h q (.code (.cond v a b) :: k) = runFX c n tr defers h q (.code b :: k) := by
  show nextX tr defers h q _ k (runFX c n) (liftX q (condNx (ev .nil tr v) a b k)) = _
  rw [e]; rfl
theorem runFX_skip {c : CtxX} {n : Nat} {tr : Tr Value} {defers : List Deferred} {h : AHeap} {q : Option Value} {k : List Item} :
    runFX c (n + 1) tr defers h q (.code .skip :: k) = runFX c n tr defers h q k := rfl
theorem runX_op {x : InvX} {size : Nat} {ops : List Oper} {tr : Tr Value} {o : Oper} {r : List Oper} {l : Loc} {h h' : AHeap} {q q' : Option Value} {ds : List Deferred} {v : Value}
    (hg : o.guard = none) (hd : isDefer o.op = none) (e : opX P x o.op (ev l tr) h q = .ok v h' q') :
    runX P x size ops tr (o :: r) l h q ds = runX P x size ops tr r (putL size o.dst v l) h' q' ds := by
  show (match wantX ops o l tr with
      | some b => Bool.rec (motive := fun _ => ResR) (runX P x size ops tr r (putL size o.dst undef l) h q ds) (goX P x size o tr l h q ds (runX P x size ops tr r)) b
      | none => .no) = _
  unfold wantX
  rw [hg]
  show goX P x size o tr l h q ds (runX P x size ops tr r) = _
  unfold goX
  rw [hd, e]
  dsimp only
  rw [finX_eq]
  dsimp only
  rw [forceV_eq]

theorem runX_defer {x : InvX} {size : Nat} {ops : List Oper} {tr : Tr Value} {o : Oper} {r : List Oper} {l : Loc} {h : AHeap} {q : Option Value} {ds : List Deferred} {c : Call} {d : Deferred}
    (hg : o.guard = none) (hd : isDefer o.op = some c) (e : deferX (ev l tr) c = some d) :
    runX P x size ops tr (o :: r) l h q ds = runX P x size ops tr r (putL size o.dst undef l) h q (d :: ds) := by
  show (match wantX ops o l tr with
      | some b => Bool.rec (motive := fun _ => ResR) (runX P x size ops tr r (putL size o.dst undef l) h q ds) (goX P x size o tr l h q ds (runX P x size ops tr r)) b
      | none => .no) = _
  unfold wantX
  rw [hg]
  show goX P x size o tr l h q ds (runX P x size ops tr r) = _
  unfold goX
  rw [hd]
  dsimp only
  rw [e]
end
end Go.Ev
/- Operations of a frame that defers. -/
namespace Go.Ev
variable {P : Program}
theorem opX_alloc {t : TypeId} {z : Value} (hz : zeroV P t = some z) (x : InvX) (ev : Operand → Value) (h : AHeap) (q : Option Value) : opX P x (.alloc t) ev h q = .ok (.pointer (some ⟨h.next, 0, none⟩)) (h.new (.cells z.cells.toList t true)) q := by
  show resOf q (al h (allocA P t)) = _
  rw [alloc_eq, hz, allocK_some]
  show resOf q (h.newK _ fun b h => some (.pointer (some ⟨b, 0, none⟩), h)) = _
  rw [AHeap.newK_eq]; rfl
theorem store_two {t : TypeId} (hi : (P.info? t).map (fun i => i.size) = some 2) {h : AHeap} {a : Nat} {u v : Value} {k k' : IntKind} (hg : h.get a = some (.cells [u, v] t true)) (x y : Int) :
    storeOp P h t (.pointer (some ⟨a, 0, none⟩)) (.agg #[.int k x, .int k' y]) = some (undef, h.set a (.cells [.int k x, .int k' y] t true)) := by
  unfold storeOp
  cases hinf : P.info? t with
  | none => rw [hinf] at hi; cases hi
  | some i =>
    rw [hinf] at hi
    have hs : i.size = 2 := Option.some.inj hi
    show cond (Nat.beq 2 i.size && true) (match putCells h ⟨a, 0, none⟩ [.int k x, .int k' y] with
        | some h' => some (undef, h')
        | none => none) none = _
    rw [hs]
    show (match putCells h ⟨a, 0, none⟩ [.int k x, .int k' y] with
        | some h' => some (undef, h')
        | none => none) = _
    unfold putCells
    dsimp only
    rw [hg]
    dsimp only
    show (match (h.setK a (.cells [.int k x, .int k' y] t true) some) with
        | some h' => some (undef, h')
        | none => none) = _
    rw [AHeap.setK_eq]
theorem opX_store_two {t : TypeId} (hi : (P.info? t).map (fun i => i.size) = some 2) {x : InvX} {ev : Operand → Value} {h : AHeap} {q : Option Value} {a : Nat} {u v : Value} {p o : Operand} {k k' : IntKind} {m n : Int} (hp : ev p = .pointer (some ⟨a, 0, none⟩)) (ho : ev o = .agg #[.int k m, .int k' n]) (hg : h.get a = some (.cells [u, v] t true)) :
    opX P x (.store t p o) ev h q = .ok undef (h.set a (.cells [.int k m, .int k' n] t true)) q := by
  show resOf q (storeOp P h t (ev p) (ev o)) = _
  rw [hp, ho, store_two hi hg]; rfl
theorem opX_assert_nil {t : TypeId} {z : Value} (hz : assertV P .nilIface t true = some z) {x : InvX} {ev : Operand → Value} {h : AHeap} {q : Option Value} {s : TypeId} {o : Operand} (ho : ev o = .nilIface) :
    opX P x (.typeAssert o s t true) ev h q = .ok z h q := by
  show resOf q (pv h (assertV P (ev o) t true)) = _
  rw [ho, hz]; rfl
theorem new_get (h : AHeap) (o : AObj) : (h.new o).get h.next = some o := by
  show (h.tr.set h.next o).get h.next = _
  rw [Tr.get_set, if_pos rfl]
end Go.Ev
namespace Go.Proofs.YtelepfablohdmaaGreatDoor
open Go.Ev
theorem fa122 : funcAt Tryz.prog 122 = (match Tryz.f122.body with | some b => some (Tryz.f122, b) | none => none) := by kernel_rfl
theorem z95 : zeroV Tryz.prog 95 = some (.agg #[.int .i64 0, .int .i64 0]) := by kernel_rfl
theorem i95 : (Tryz.prog.info? 95).map (fun i => i.size) = some 2 := by kernel_rfl
theorem f95 : assertV Tryz.prog .nilIface 95 true = some (.tuple #[.agg #[.int .i64 0, .int .i64 0], .bool false]) := by kernel_rfl
set_option maxRecDepth 100000 in
theorem att_d (i : Inv) (h : AHeap) (a : Nat) (hg : h.get a = some (.cells [.int .i64 0, .int .i64 0] 95 true)) : callD Tryz.prog 122 i (.defd none) (.func 122) [.pointer (some ⟨a, 0, none⟩)] h = .ok (.tuple #[]) ((h.new (.cells [.int .i64 0, .int .i64 0] 95 true)).set h.next (.cells [.int .i64 0, .int .i64 0] 95 true)) none := by
  · show (match funcAt Tryz.prog 122 with
      | some (fn, body) => onlyV (.defd none) (enterX Tryz.prog ⟨50, true, [], noX⟩ noInvX (.defd none) 122 fn body [.pointer (some ⟨a, 0, none⟩)] h)
      | none => .no) = _
    rw [fa122]
    dsimp only [Tryz.f122]
    unfold enterX
    rw [frmOf_eq]
    dsimp only
    rw [show (Nat.ble [Value.pointer (some ⟨a, 0, none⟩)].length (#[].size + 1) && Nat.ble [Value.pointer (some ⟨a, 0, none⟩)].length 10) = true from rfl, cond_true]
    rw [runFX_seq]
    rw [runFX_region]
    rotate_left
    · refine (runX_op rfl rfl rfl).trans ?_
      refine (runX_op rfl rfl (opX_assert_nil f95 rfl)).trans ?_
      refine (runX_op rfl rfl rfl).trans ?_
      refine (runX_op rfl rfl rfl).trans ?_
      refine (runX_op rfl rfl rfl).trans ?_
      refine (runX_op rfl rfl (opX_alloc z95 _ _ _ _)).trans ?_
      refine (runX_op rfl rfl (opX_store_two i95 rfl rfl (new_get _ _))).trans ?_
      refine (runX_op rfl rfl rfl).trans ?_
      exact runX_nil _ _ _ _ _ _ _ _
    rw [runFX_seq]
    rw [runFX_region]
    rotate_left
    · refine (runX_op rfl rfl rfl).trans ?_
      exact runX_nil _ _ _ _ _ _ _ _
    rw [runFX_condf]
    rotate_left
    · rfl
    rw [runFX_skip]
    rw [runFX_nil]
    rfl
theorem b95 : buildV Tryz.prog 95 [] = some (.agg #[.int .i64 0, .int .i64 0]) := by kernel_rfl
theorem opX_build {P : Program} {t : TypeId} {z : Value} (hz : buildV P t [] = some z) (x : InvX) (ev : Operand → Value) (h : AHeap) (q : Option Value) : opX P x (.build t #[]) ev h q = .ok z h q := by
  show resOf q (pv h (buildV P t [])) = _
  rw [hz]; rfl
theorem opX_call {P : Program} {x : InvX} {ev : Operand → Value} {h h' : AHeap} {q q1 : Option Value} {g : FuncId} {fs cs : Array Value} {v : Value} {f : Operand} {ts : Array TypeId} (hf : ev f = .func (.func g) fs cs) (hx : x .norm (.func g) (fs.toList ++ [] ++ cs.toList) h = .ok v h' q1) :
    opX P x (.call ⟨.value f, #[], ts⟩) ev h q = .ok v h' q := by
  show callX x (ev f) [] h q = _
  rw [hf]
  unfold callX
  dsimp only
  rw [hx]
theorem l95 : loadV Tryz.prog 95 [.int .i64 0, .int .i64 0] 0 = some (.agg #[.int .i64 0, .int .i64 0]) := by kernel_rfl
theorem leave_cell {P : Program} {fn : Func} {tr : Tr Value} {q : Option Value} {h : AHeap} {a : Tmp} {t : TypeId} {v : Value} (hr : fn.results.toList = [.cell a t]) (h1 : cellV P h t (ev .nil tr (.tmp a)) = some v) : leaveX P fn tr q (some ⟨none, h⟩) = .ok (asResult [v]) h q := by
  show (match resAll P tr h fn.results.toList with
    | some vs => ResV.ok (asResult vs) h q
    | none => .no) = _
  have h2 : resAll P tr h [.cell a t] = some [v] := by
    show (match cellV P h t (ev .nil tr (.tmp a)), some [] with
      | some v, some vs => some (v :: vs)
      | _, _ => none) = _
    rw [h1]
  rw [hr, h2]
theorem fa67 : funcAt Tryz.prog 67 = (match Tryz.f67.body with | some b => some (Tryz.f67, b) | none => none) := by kernel_rfl
def zz : AObj := .cells [.int .i64 0, .int .i64 0] 95 true
set_option maxRecDepth 100000 in
theorem att_run (i : Inv) (h h1 : AHeap) (g : FuncId) (fs cs : List Value) (v : Value) (hi : i (.func g) (fs ++ [] ++ cs) (h.new zz) = some (v, h1)) (hg : h1.get h.next = some zz) (hn : h1.next ≠ h.next) :
    attX Tryz.prog 67 122 i (.func 67) [.func (.func g) ⟨fs⟩ ⟨cs⟩] h = some (.agg #[.int .i64 0, .int .i64 0], (((h1.set h.next zz).new zz).set h1.next zz)) := by
  show (match funcAt Tryz.prog 67 with
    | some (fn, body) => plainR (enterX Tryz.prog ⟨50, true, [], noX⟩ (callD Tryz.prog 122 i) .norm 67 fn body [.func (.func g) ⟨fs⟩ ⟨cs⟩] h)
    | none => none) = _
  rw [fa67]
  dsimp only [Tryz.f67]
  unfold enterX
  rw [frmOf_eq]
  dsimp only
  rw [show (Nat.ble [Value.func (.func g) ⟨fs⟩ ⟨cs⟩].length (#[1].size + 0) && Nat.ble [Value.func (.func g) ⟨fs⟩ ⟨cs⟩].length 7) = true from rfl, cond_true]
  rw [runFX_seq, runFX_region]
  rotate_left
  · refine (runX_op rfl rfl (opX_alloc z95 _ _ _ _)).trans ?_
    exact runX_nil _ _ _ _ _ _ _ _
  rw [runFX_seq, runFX_region]
  rotate_left
  · refine (runX_op rfl rfl rfl).trans ?_
    refine (runX_defer rfl rfl rfl).trans ?_
    exact runX_nil _ _ _ _ _ _ _ _
  rw [runFX_seq, runFX_region]
  rotate_left
  · refine (runX_op rfl rfl rfl).trans ?_
    refine (runX_op rfl rfl (opX_call (g := g) (fs := ⟨fs⟩) (cs := ⟨cs⟩) (v := v) (h' := h1) (q1 := none) (by kernel_rfl) (by
      show resOf none (i (.func g) (fs ++ [] ++ cs) (h.new zz)) = _
      rw [hi]; rfl))).trans ?_
    exact runX_nil _ _ _ _ _ _ _ _
  rw [runFX_seq, runFX_region]
  rotate_left
  · refine (runX_op rfl rfl (opX_build b95 _ _ _ _)).trans ?_
    refine (runX_op rfl rfl (opX_store_two (m := 0) (n := 0) (k := .i64) (k' := .i64) i95 (by kernel_rfl) (by kernel_rfl) hg)).trans ?_
    exact runX_nil _ _ _ _ _ _ _ _
  rw [runFX_ret]
  show plainR (leaveX Tryz.prog _ _ _ (unwindX (callD Tryz.prog 122 i) [_] none _)) = _
  have hu : unwindX (callD Tryz.prog 122 i) [{ target := .fn (.func 122) #[.pointer (some ⟨h.next, 0, none⟩)], args := #[] }] none (h1.set h.next zz) = some ⟨none, ((h1.set h.next zz).new zz).set (h1.set h.next zz).next zz⟩ := by
    show (match callD Tryz.prog 122 i (.defd none) (.func 122) [.pointer (some ⟨h.next, 0, none⟩)] (h1.set h.next zz) with
      | .ok _ h q => unwindX (callD Tryz.prog 122 i) [] q h
      | _ => none) = _
    rw [att_d i _ _ (by show (h1.tr.set h.next zz).get h.next = _; rw [Tr.get_set, if_pos rfl]; rfl)]
    rfl
  refine Eq.trans (congrArg (fun ds => plainR (leaveX Tryz.prog _ _ _ (unwindX (callD Tryz.prog 122 i) ds none _))) (?_ : _ = [{ target := .fn (.func 122) #[.pointer (some ⟨h.next, 0, none⟩)], args := #[] }])) ?_
  · kernel_rfl
  refine Eq.trans (congrArg (fun o => plainR (leaveX Tryz.prog _ _ _ o)) hu) ?_
  have hG : (((h1.set h.next zz).new zz).set (h1.set h.next zz).next zz).get h.next = some zz := by
    show (((h1.tr.set h.next zz).set h1.next zz).set h1.next zz).get h.next = _
    rw [Tr.get_set, if_neg hn, Tr.get_set, if_neg hn, Tr.get_set, if_pos rfl]
  have hc : ∀ x, x = Value.pointer (some ⟨h.next, 0, none⟩) → cellV Tryz.prog (((h1.set h.next zz).new zz).set (h1.set h.next zz).next zz) 95 x = some (.agg #[.int .i64 0, .int .i64 0]) := by
    intro x hx
    subst hx
    unfold cellV
    dsimp only
    rw [hG]
    exact l95
  refine (congrArg plainR (leave_cell (a := 2) (t := 95) (v := .agg #[.int .i64 0, .int .i64 0]) rfl (hc _ ?_))).trans ?_
  · kernel_rfl
  rfl
end Go.Proofs.YtelepfablohdmaaGreatDoor
