/- The evaluator: operations that write nothing; what is known of less. -/
import Derived.Test.YtelepfablohdmaaGreatDoorEv16
set_option linter.unusedSimpArgs false
set_option linter.unusedVariables false
namespace Go.Ev

variable {P : Program} {base : Nat} {ρ : Ren} {w : World}

theorem evs_cons (ev : Operand → Value) (x : Operand) (l : List Operand) : evs ev (x :: l) = ev x :: evs ev l := rfl
theorem evs_congr {ev ev' : Operand → Value} : ∀ {l : List Operand}, (∀ x ∈ l, ev x = ev' x) → evs ev l = evs ev' l
  | [], _ => rfl
  | x :: l, h => by rw [evs_cons, evs_cons, h x (.head _), evs_congr fun y hy => h y (.tail _ hy)]
theorem evParts_cons (ev : Operand → Value) (x : Nat × Operand) (l : List (Nat × Operand)) : evParts ev (x :: l) = (x.1, ev x.2) :: evParts ev l := rfl
theorem evParts_congr {ev ev' : Operand → Value} : ∀ {l : List (Nat × Operand)}, (∀ x ∈ l, ev x.2 = ev' x.2) → evParts ev l = evParts ev' l
  | [], _ => rfl
  | x :: l, h => by rw [evParts_cons, evParts_cons, h x (.head _), evParts_congr fun y hy => h y (.tail _ hy)]
theorem evO_congr {ev ev' : Operand → Value} {o : Option Operand} (h : ∀ x, o = some x → ev x = ev' x) : evO ev o = evO ev' o := by
  cases o with
  | none => rfl
  | some x => show some (ev x) = some (ev' x); rw [h x rfl]

theorem call_congr {inv : Inv} {h : AHeap} {ev ev' : Operand → Value} (c : Call) (hx : ∀ x ∈ c.operands, ev x = ev' x) : callOp P inv ev h c = callOp P inv ev' h c := by
  have ha : evs ev c.args.toList = evs ev' c.args.toList := evs_congr fun x hm => hx x (by simp [Call.operands]; exact .inr (by simpa using hm))
  unfold callOp
  rw [ha]
  cases hc : c.callee with
  | value f => dsimp only; rw [hx f (by simp [Call.operands, hc])]
  | builtin b => rfl
  | invoke a b => rfl

/-- an operation looks at its operands alone -/
theorem opC_congr {inv : Inv} {h : AHeap} {ev ev' : Operand → Value} (op : Op) (hx : ∀ x ∈ op.operands, ev x = ev' x) : (opC P op).f inv ev h = (opC P op).f inv ev' h := by
  cases op <;> simp only [opC] <;> simp only [Op.operands] at hx
  case build t ps => rw [evParts_congr fun x hm => hx x.2 (by simp; exact ⟨x.1, by simpa using hm⟩)]
  case buildSlice t n ps => rw [evParts_congr fun x hm => hx x.2 (by simp; exact ⟨x.1, by simpa using hm⟩)]
  case makeFunc fn first captured =>
    rw [evs_congr fun x hm => hx x (by simp; exact .inl (by simpa using hm)), evs_congr (l := captured.toList) fun x hm => hx x (by simp; exact .inr (by simpa using hm))]
  case makeMap t r => cases r <;> rfl
  case slice t x lo hi mx =>
    rw [hx x (by simp), evO_congr (o := lo) fun y hy => hx y (by subst hy; simp), evO_congr (o := hi) fun y hy => hx y (by subst hy; simp), evO_congr (o := mx) fun y hy => hx y (by subst hy; simp)]
  case call c => exact call_congr c hx
  all_goals first | rfl | (simp_all; done)

/-- a computation makes a new block, as an operation -/
def RawN (P : Program) (ρ : Ren) (b : Nat) (w : World) (s : Sem Next) (v : Value) (ob : AObj) : Prop :=
  ∃ v' o' esz total, s.run P w = .ok (.value v') (w.alloc o') ∧ VRel (ρ.put b ⟨w.heap.size, 0, esz, total⟩) v v' ∧ ORel P (ρ.put b ⟨w.heap.size, 0, esz, total⟩) ⟨w.heap.size, 0, esz, total⟩ ob (some o')

theorem RawA.next {b : Nat} {s : Sem Value} {v : Value} {ob : AObj} (r : RawA P ρ b w s v ob) : RawN P ρ b w (do pure (.value (← s))) v ob := by
  obtain ⟨v', o', esz, total, h1, h2, h3⟩ := r
  exact ⟨v', o', esz, total, by simp [h1], h2, h3⟩

/-- an operation that writes nothing -/
theorem light_sound {inv : Inv} {ev ev' : Operand → Value} {h h' : AHeap} {o : Oper} {v : Value} (hk : isHeavy (kindOf o.op) = false) (hev : EvRel ρ ev ev') (hr : isRead (kindOf o.op) = true → RdRel P ρ h.get w) (e : (opC P o.op).f inv ev h = some (v, h')) :
    ((h' = h ∧ GivesN P ρ w (execOp ev' o) v) ∨ ∃ ob, h' = h.new ob ∧ (ρ h.next = none → RawN P ρ h.next w (execOp ev' o) v ob)) ∧ ∀ c, o.op ≠ .defer c := by
  obtain ⟨dst, op, type, pos, after, guard⟩ := o
  have pure : ∀ {r : Option Value} {s : Sem Value}, pv h r = some (v, h') → (r = some v → GivesV P ρ w s v) → ((h' = h ∧ GivesN P ρ w (do Pure.pure (.value (← s))) v) ∨ ∃ ob, h' = h.new ob ∧ (ρ h.next = none → RawN P ρ h.next w (do Pure.pure (.value (← s))) v ob)) := fun e0 hs => by
    obtain ⟨e1, e2⟩ := pv_inv e0
    exact .inl ⟨e2, (hs e1).next⟩
  refine ⟨?_, fun c hc => ?_⟩
  · cases op <;> simp only [opC] at e
    case move x =>
      obtain ⟨e1, e2⟩ := pv_inv e
      cases e1
      exact .inl ⟨e2, ev' x, by simp only [execOp, Sem.run_pure], hev x⟩
    case assign x =>
      obtain ⟨e1, e2⟩ := pv_inv e
      cases e1
      exact .inl ⟨e2, ev' x, by simp only [execOp, Sem.run_pure], hev x⟩
    case pick c a b =>
      obtain ⟨e1, e2⟩ := pv_inv e
      exact .inl ⟨e2, pick_sound e1 (hev c) (hev a) (hev b)⟩
    case build t parts =>
      refine pure e fun e1 => build_sound e1 ?_
      rw [Array.toList_map]; exact evParts_rel hev _
    case nilCheck x =>
      obtain ⟨e1, e2⟩ := pv_inv e
      exact .inl ⟨e2, nil_sound e1 (hev x) _ x rfl ev' rfl⟩
    case binOp op t x y yt =>
      refine pure e fun e1 => ?_
      cases hs : shiftV op (ev x) (ev y) with
      | some u =>
        rw [hs] at e1
        cases e1
        obtain ⟨k1, k2⟩ := shift_sound (P := P) (w := w) (t := t) (x := x) (y := y) hs (hev x) (hev y)
        exact ⟨_, k1, k2⟩
      | none =>
        rw [hs] at e1
        exact bin_sound e1 (hev x) (hev y) x y
    case unOp op t x => exact pure e fun e1 => un_sound e1 (hev x)
    case convert s d x =>
      refine pure e fun e1 => ?_
      unfold convV at e1
      split at e1
      · rename_i t ht
        exact conv_sound e1 (hev x) ⟨t, ht⟩
      · cases e1
    case makeFunc fn first captured =>
      refine pure e fun e1 => ?_
      obtain ⟨hp, e1⟩ := cond_some e1
      cases e1
      refine ⟨.func fn (first.map ev') (captured.map ev'), rfl, ?_⟩
      have h1 := evs_rel hev first.toList
      have h2 := evs_rel hev captured.toList
      have k1 : first.map ev' = ⟨first.toList.map ev'⟩ := by apply Array.ext'; simp
      have k2 : captured.map ev' = ⟨captured.toList.map ev'⟩ := by apply Array.ext'; simp
      rw [k1, k2]
      exact .fn hp h1 h2
    case slice t x lo hi mx =>
      obtain ⟨e1, e2⟩ := slice_sound (hr rfl) e (hev x) (evO_rel hev lo) (evO_rel hev hi) (evO_rel hev mx)
      exact .inl ⟨e1, e2.next⟩
    case fieldAddr s x f => exact pure e fun e1 => fieldPtr_sound e1 (hev x)
    case field t x f => exact pure e fun e1 => field_sound e1 (hev x)
    case indexAddr t x ix => exact pure e fun e1 => indexPtr_sound e1 (hev x) (hev ix)
    case index t x ix => exact pure e fun e1 => index_sound e1 (hev x) (hev ix)
    case extract t ix => exact pure e fun e1 => extract_sound e1 (hev t)
    case load t x =>
      obtain ⟨e1, b, f, ob, e2, e3, e4⟩ := rd_inv e
      exact .inl ⟨e1, (load_sound (hr rfl) e2 e3 e4 (hev x)).next⟩
    case lookup t m k ok =>
      unfold lookOp at e
      split at e
      · rename_i hm
        have hm' := hev m
        rw [hm] at hm'
        refine pure e fun e1 => ?_
        rw [hm'.mnil_inv]
        exact lookN_sound e1 (hev k)
      · obtain ⟨e1, b, f, ob, e2, e3, e4⟩ := rd_inv e
        exact .inl ⟨e1, (look_sound (hr rfl) e2 e3 e4 (hev m) (hev k)).next⟩
    case alloc t =>
      obtain ⟨ob, f, e1, e2, e3⟩ := al_inv e
      refine .inr ⟨ob, e3, fun hn => ?_⟩
      rw [e2]; exact (alloc_raw hn e1).next
    case box t x =>
      obtain ⟨ob, f, e1, e2, e3⟩ := al_inv e
      refine .inr ⟨ob, e3, fun hn => ?_⟩
      rw [e2]; exact (box_raw hn e1 (hev x)).next
    case buildSlice t n parts =>
      obtain ⟨ob, f, e1, e2, e3⟩ := al_inv e
      refine .inr ⟨ob, e3, fun hn => ?_⟩
      rw [e2]
      refine (buildSlice_raw hn e1 ?_).next
      rw [Array.toList_map]; exact evParts_rel hev _
    case makeMap t r =>
      cases r with
      | none =>
        obtain ⟨ob, f, e1, e2, e3⟩ := al_inv e
        refine .inr ⟨ob, e3, fun hn => ?_⟩
        rw [e2]; exact (makeMap_raw e1).next
      | some _ => cases e
    case makeSlice t l c =>
      obtain ⟨ob, f, e1, e2, e3⟩ := al_inv e
      refine .inr ⟨ob, e3, fun hn => ?_⟩
      rw [e2]; exact (makeSlice_raw hn e1 (hev l) (hev c)).next
    case store t x y => cases hk
    case mapUpdate t m k x => cases hk
    case call c =>
      have ha : VRels ρ (evs ev c.args.toList) (c.args.map ev').toList := by
        rw [Array.toList_map]; exact evs_rel hev _
      have key : ∀ b, c.callee = .builtin b → (do let d ← resolve ev' c type; invoke d.target d.args : Sem Next) = builtin b c.argTypes type (c.args.map fun | .const _ => true | _ => false) (c.args.map ev') := fun b hc => by
        unfold resolve; simp only [hc]; rfl
      unfold callOp at e
      simp only [kindOf] at hk hr
      split at e
      · rename_i f hc; rw [hc] at hk; cases hk
      · rename_i b hc
        show (h' = h ∧ GivesN P ρ w (do let d ← resolve ev' c type; invoke d.target d.args) v) ∨ _
        rw [key b hc]
        rw [hc] at hk hr
        cases b with
        | len =>
          obtain ⟨t, x, h1, h2, h3⟩ := one_inv e
          obtain ⟨x', h4, h5⟩ := ha.toArray_get h2
          unfold lenOp at h3
          split at h3
          · obtain ⟨e1, b', f, ob, e2, e3, e4⟩ := rd_inv h3
            exact .inl ⟨e1, (lenR_sound (ty := type) (hr rfl) e2 e3 e4 h5 h1 h4).next⟩
          · obtain ⟨e1, e2⟩ := pv_inv h3
            exact .inl ⟨e2, (len_sound (ty := type) e1 h5 h1 h4).next⟩
        | cap =>
          obtain ⟨t, x, h1, h2, h3⟩ := one_inv e
          obtain ⟨x', h4, h5⟩ := ha.toArray_get h2
          obtain ⟨e1, e2⟩ := pv_inv h3
          exact .inl ⟨e2, (cap_sound (ty := type) e1 h5 h1 h4).next⟩
        | _ => cases hk
      · cases e
    case makeInterface t x => exact pure e fun e1 => iface_sound e1 (hev x)
    case typeAssert x xt a ok => exact pure e fun e1 => assert_sound e1 (hev x)
    all_goals cases e
  · subst hc; cases e
end Go.Ev
