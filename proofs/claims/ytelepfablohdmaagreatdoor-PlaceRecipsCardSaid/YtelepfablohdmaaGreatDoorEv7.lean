/- The evaluator: operators, slices, parts. -/
import Derived.Test.YtelepfablohdmaaGreatDoorEv6
import Derived.Laws.Slices
set_option linter.unusedSimpArgs false
set_option linter.unusedVariables false
namespace Go.Ev

variable {P : Program} {ρ : Ren} {w : World}

theorem run_eql {t : TypeId} {x y : Value} {r : Bool} (he : (Op.equal t x y).run P w = .ok r w) (hc : Compared P t x y) : (binOp .eql t x y).run P w = .ok (.bool r) w := by
  obtain ⟨h1, h2, h3, h4, h5, h6⟩ := hc
  unfold binOp
  split <;> first
    | contradiction
    | (exfalso; exact h3 _ _ rfl)
    | (exfalso; exact h4 _ rfl)
    | (exfalso; exact h5 _ _ rfl)
    | (exfalso; exact h6 _ _ _ rfl)
    | (simp only [Sem.run_bind, he, Result.andThen_ok, Sem.run_pure])
theorem run_neq {t : TypeId} {x y : Value} {r : Bool} (he : (Op.equal t x y).run P w = .ok r w) (hc : Compared P t x y) : (binOp .neq t x y).run P w = .ok (.bool (!r)) w := by
  obtain ⟨h1, h2, h3, h4, h5, h6⟩ := hc
  unfold binOp
  split <;> first
    | contradiction
    | (exfalso; exact h3 _ _ rfl)
    | (exfalso; exact h4 _ rfl)
    | (exfalso; exact h5 _ _ rfl)
    | (exfalso; exact h6 _ _ _ rfl)
    | (simp only [Sem.run_bind, he, Result.andThen_ok, Sem.run_pure])

theorem intC_plain {op : BinOp} {k : IntKind} {a b : Int} {v : Value} (h : (intC op).f k a b = some v) : VRel ρ v v := by
  unfold intC at h
  cases op <;> simp only at h <;> first
    | (cases h; done)
    | (cases h; constructor)
    | (cases hz : isZero b <;> rw [hz] at h <;> cases h; constructor)
theorem strC_plain {op : BinOp} {a b : List UInt8} {v : Value} (h : (strC op).f a b = some v) : VRel ρ v v := by
  unfold strC at h
  cases op <;> simp only at h <;> first
    | (cases h; done)
    | (cases h; constructor)
    | (obtain ⟨_, h⟩ := cond_some h; cases h; constructor)

theorem bin_sound {op : BinOp} {t : TypeId} {x x' y y' v : Value} (h : bin P op t x y = some v) (hx : VRel ρ x x') (hy : VRel ρ y y') (xo yo : Operand) :
    GivesV P ρ w (do eqGuard op t xo yo x' y'; binOp op t x' y') v := by
  unfold bin at h
  split at h
  · rename_i k a
    split at h
    · rename_i k' b
      obtain ⟨hk, h⟩ := cond_some h
      rw [hx.int_inv, hy.int_inv, ← kindEq_spec hk]
      refine ⟨v, ?_, intC_plain h⟩
      simp only [Sem.run_bind, run_eqGuard_other op t xo yo (a := .int k a) (b := .int k b) (by simp) (by simp), Result.andThen_ok, intBin_sound h t]
    · cases h
  · rename_i a
    split at h
    · rename_i b
      rw [hx.string_inv, hy.string_inv]
      refine ⟨v, ?_, strC_plain h⟩
      simp only [Sem.run_bind, run_eqGuard_other op t xo yo (a := .string a) (b := .string b) (by simp) (by simp), Result.andThen_ok, strBin_sound h t]
    · cases h
  · unfold otherC at h
    split at h
    · simp only [Option.map_eq_some_iff] at h
      obtain ⟨r, hr, rfl⟩ := h
      obtain ⟨he, hc⟩ := valEq_sound (w := w) hr hx hy
      refine ⟨.bool r, ?_, .bool _⟩
      simp only [Sem.run_bind, run_eqGuard_other _ t xo yo hc.1 hc.2.1, Result.andThen_ok, run_eql he hc]
    · simp only [Option.map_eq_some_iff] at h
      obtain ⟨r, hr, rfl⟩ := h
      obtain ⟨he, hc⟩ := valEq_sound (w := w) hr hx hy
      refine ⟨.bool (!r), ?_, .bool _⟩
      simp only [Sem.run_bind, run_eqGuard_other _ t xo yo hc.1 hc.2.1, Result.andThen_ok, run_neq he hc]
    · cases h

/-! ### parts -/
theorem fold_cells (off : Nat) : ∀ (l : List Value) (j : Nat) (cs : Array Value), off + j + l.length ≤ cs.size →
    ((l.zipIdx j).foldl (fun cs (x : Value × Nat) => cs.setIfInBounds (off + x.2) x.1) cs).size = cs.size ∧
    ∀ i, ((l.zipIdx j).foldl (fun cs (x : Value × Nat) => cs.setIfInBounds (off + x.2) x.1) cs)[i]? = if off + j ≤ i ∧ i < off + j + l.length then l[i - (off + j)]? else cs[i]?
  | [], j, cs, _ => ⟨rfl, fun i => by
      have : ¬ (off + j ≤ i ∧ i < off + j + ([] : List Value).length) := by simp only [List.length_nil]; omega
      rw [if_neg this]; rfl⟩
  | v :: l, j, cs, h => by
    simp only [List.length_cons] at h
    obtain ⟨h1, h2⟩ := fold_cells off l (j + 1) (cs.setIfInBounds (off + j) v) (by simp; omega)
    simp only [List.zipIdx_cons, List.foldl_cons, List.length_cons]
    refine ⟨by rw [h1]; simp, fun i => ?_⟩
    rw [h2 i]
    by_cases hi : i = off + j
    · subst hi
      rw [if_neg (by omega), if_pos (by omega), Nat.sub_self]
      rw [Array.getElem?_setIfInBounds_self_of_lt (by omega)]
      rfl
    · by_cases hc : off + j ≤ i ∧ i < off + j + (l.length + 1)
      · rw [if_pos (by omega), if_pos hc, show i - (off + j) = (i - (off + (j + 1))) + 1 by omega, List.getElem?_cons_succ]
      · rw [if_neg (by omega), if_neg hc, Array.getElem?_setIfInBounds_ne (by omega)]

/-- an array that reads as a list does -/
theorem rels_of_get {l : List Value} {a : Array Value} (hs : a.size = l.length) (h : ∀ (i : Nat) (v : Value), l[i]? = some v → ∃ v', a[i]? = some v' ∧ VRel ρ v v') : VRels ρ l a.toList := by
  have := VRels.of_get (ρ := ρ) (cs := a) (off := 0) (l := l) fun i v hv => by simpa using h i v hv
  rwa [List.drop_zero, List.take_of_length_le (by simp [hs])] at this

inductive PRels (ρ : Ren) : List (Nat × Value) → List (Nat × Value) → Prop where
  | nil : PRels ρ [] []
  | cons {i : Nat} {v v' : Value} {l l' : List (Nat × Value)} (h : VRel ρ v v') (t : PRels ρ l l') : PRels ρ ((i, v) :: l) ((i, v') :: l')

theorem fill_sound {place place' : Nat → Option (Nat × Nat)} (hp : ∀ i x, place i = some x → place' i = some x) : ∀ {parts parts' : List (Nat × Value)} {cs : List Value} {cs' : Array Value} {r : List Value}, PRels ρ parts parts' → VRels ρ cs cs'.toList →
    fillL place parts cs = some r → ∃ r', Instr.fill place' cs' parts' = some r' ∧ VRels ρ r r'.toList
  | _, _, cs, cs', r, .nil, hc, h => by
    have : some cs = some r := h
    cases this
    exact ⟨cs', rfl, hc⟩
  | _, _, cs, cs', r, .cons (i := i) (v := v) (v' := v') (l := l) (l' := l') hv ht, hc, h => by
    have h' : (match place i with
      | some (off, size) => cond (Nat.beq v.cells.toList.length size && allFlat v.cells.toList) (match over cs off v.cells.toList with
        | some cs => fillL place l cs
        | none => none) none
      | none => none) = some r := h
    split at h'
    · rename_i off size hpl
      obtain ⟨hb, h'⟩ := cond_some h'
      rw [Bool.and_eq_true] at hb
      have hsz : v.cells.toList.length = size := Nat.eq_of_beq_eq_true hb.1
      split at h'
      · rename_i cs2 hov
        have hcells := hv.cells hb.2
        have hlen := hcells.length
        obtain ⟨o1, o2, o3⟩ := over_get _ _ _ _ hov
        have hcl := hc.length
        simp only [Array.length_toList] at hcl hlen hsz o2 o3
        obtain ⟨f1, f2⟩ := fold_cells off v'.cells.toList 0 cs' (by simp only [Array.length_toList]; omega)
        have hz : v'.cells.zipIdx.foldl (fun cs (x : Value × Nat) => cs.setIfInBounds (off + x.2) x.1) cs' = (v'.cells.toList.zipIdx 0).foldl (fun cs (x : Value × Nat) => cs.setIfInBounds (off + x.2) x.1) cs' := by
          rw [← Array.foldl_toList, Array.toList_zipIdx]
        have hnew : VRels ρ cs2 ((v'.cells.toList.zipIdx 0).foldl (fun cs (x : Value × Nat) => cs.setIfInBounds (off + x.2) x.1) cs').toList := by
          refine rels_of_get (by omega) fun j u hu => ?_
          rw [o3 j] at hu
          rw [f2 j]
          simp only [Nat.add_zero, Array.length_toList]
          by_cases hc1 : off ≤ j ∧ j < off + v.cells.size
          · rw [if_pos hc1] at hu
            rw [if_pos (by omega)]
            exact hcells.get hu
          · rw [if_neg hc1] at hu
            rw [if_neg (by omega)]
            exact hc.toArray_get hu
        obtain ⟨r', h1, h2⟩ := fill_sound hp ht hnew h'
        refine ⟨r', ?_, h2⟩
        rw [Instr.fill, hp _ _ hpl]
        simp only []
        rw [if_neg (by simp; omega)]
        have hz' : v'.cells.zipIdx.foldl (fun cs x => match x with | (c, j) => cs.setIfInBounds (off + j) c) cs' = _ := hz
        rw [hz']
        exact h1
      · cases h'
    · cases h'

theorem const_rel {v : Value} (h : constOk v = true) : VRel ρ v v := by
  unfold constOk at h
  split at h <;> first | (cases h; done) | constructor

theorem consts_rel : ∀ {l : List Value}, allConst l = true → VRels ρ l l
  | [], _ => .nil
  | v :: l, h => by
    have h' : Bool.rec (motive := fun _ => Bool) false (allConst l) (constOk v) = true := h
    cases hc : constOk v with
    | false => rw [hc] at h'; cases h'
    | true => rw [hc] at h'; exact .cons (const_rel hc) (consts_rel h')

theorem const_flat {v : Value} (h : constOk v = true) : flat v = true := by
  unfold constOk at h
  split at h <;> first | (cases h; done) | rfl

theorem consts_flat : ∀ {l : List Value}, allConst l = true → allFlat l = true
  | [], _ => rfl
  | v :: l, h => by
    have h' : Bool.rec (motive := fun _ => Bool) false (allConst l) (constOk v) = true := h
    cases hc : constOk v with
    | false => rw [hc] at h'; cases h'
    | true =>
      rw [hc] at h'
      show Bool.rec (motive := fun _ => Bool) false (allFlat l) (flat v) = true
      rw [const_flat hc]; exact consts_flat h'

/-- what is known of a type's zero value -/
theorem zero_spec {t : TypeId} {z : Value} (h : zeroV P t = some z) : ∃ i, P.info? t = some i ∧ i.zero = some z ∧ VRels ρ z.cells.toList z.cells.toList ∧ z.cells.toList.length = i.size ∧ VRel ρ z z ∧ allFlat z.cells.toList = true := by
  unfold zeroV at h
  split at h
  · rename_i i hi
    split at h
    · rename_i z' hz
      obtain ⟨hok, h⟩ := cond_some h
      cases h
      refine ⟨i, hi, hz, ?_⟩
      unfold zeroOk at hok
      split at hok
      · rename_i cs
        rw [Bool.and_eq_true] at hok
        have hr := consts_rel (ρ := ρ) hok.1
        exact ⟨hr, Nat.eq_of_beq_eq_true hok.2, .mkAgg hr, consts_flat hok.1⟩
      · rename_i hna
        rw [Bool.and_eq_true] at hok
        have hr := const_rel (ρ := ρ) hok.1
        have hc := (hr.flat (const_flat hok.1)).2.2
        rw [hc]
        exact ⟨.cons hr .nil, (Nat.eq_of_beq_eq_true hok.2).symm, hr, by show Bool.rec (motive := fun _ => Bool) false true (flat z) = true; rw [const_flat hok.1]⟩
    · cases h
  · cases h

theorem build_sound {t : TypeId} {parts : List (Nat × Value)} {parts' : Array (Nat × Value)} {v : Value} (h : buildV P t parts = some v) (hr : PRels ρ parts parts'.toList) : GivesV P ρ w (Instr.build t parts') v := by
  unfold buildV at h
  split at h
  · rename_i z hzv
    obtain ⟨i, hi, hzz, hzr, _, _⟩ := zero_spec (ρ := ρ) hzv
    · split at h
      · rename_i fields hu
        obtain ⟨hall, h⟩ := cond_some h
        unfold aggOf at h
        split at h
        · rename_i cs hcs
          cases h
          have hplaces : ∃ places : Array (Nat × Nat), (fields.mapM fun f => do pure (f.offset, ← sizeOf f.type) : Sem (Array (Nat × Nat))).run P w = .ok places w ∧ ∀ j x, fieldPlaceV P fields.toList j = some x → places[j]? = some x := by
            have key : ∀ fs : List Field, allKnown P fs = true → ∃ ps : List (Nat × Nat), (fs.mapM fun f => do pure (f.offset, ← sizeOf f.type) : Sem (List (Nat × Nat))).run P w = .ok ps w ∧ ∀ j x, fieldPlaceV P fs j = some x → ps[j]? = some x := by
              intro fs
              induction fs with
              | nil => exact fun _ => ⟨[], rfl, fun j x hx => by simp [fieldPlaceV, at?_eq] at hx⟩
              | cons f fs ih =>
                intro hk
                obtain ⟨hk1, hk2⟩ : (P.info? f.type).isSome = true ∧ allKnown P fs = true := by
                  have hk' : Bool.rec (motive := fun _ => Bool) false (allKnown P fs) (P.info? f.type).isSome = true := hk
                  cases hh : (P.info? f.type).isSome with
                  | false => rw [hh] at hk'; cases hk'
                  | true => rw [hh] at hk'; exact ⟨rfl, hk'⟩
                obtain ⟨ps, h1, h2⟩ := ih hk2
                obtain ⟨fi, hfi⟩ := Option.isSome_iff_exists.1 hk1
                refine ⟨(f.offset, fi.size) :: ps, by rw [List.mapM_cons]; simp only [Sem.run_bind, run_size hfi, Result.andThen_ok, Sem.run_pure, h1], fun j x hx => ?_⟩
                cases j with
                | zero => simpa [fieldPlaceV, at?_eq, hfi] using hx
                | succ j =>
                  have := h2 j x (by simpa [fieldPlaceV, at?_eq] using hx)
                  simpa using this
            obtain ⟨ps, h1, h2⟩ := key fields.toList hall
            refine ⟨ps.toArray, ?_, fun j x hx => by simpa using h2 j x hx⟩
            rw [Array.mapM_eq_mapM_toList, Sem.run_map, h1]
            rfl
          obtain ⟨places, p1, p2⟩ := hplaces
          obtain ⟨r', f1, f2⟩ := fill_sound (place' := fun j => places[j]?) p2 hr hzr hcs
          refine ⟨.agg r', ?_, .mkAgg f2⟩
          simp only [Instr.build, Sem.run_bind, run_zero hi hzz, run_under hu, Result.andThen_ok, p1, f1, Sem.run_pure]
        · cases h
      · rename_i len elem hu
        split at h
        · rename_i e he
          unfold aggOf at h
          split at h
          · rename_i cs hcs
            cases h
            obtain ⟨r', f1, f2⟩ := fill_sound (place' := fun i => some (i * e.size, e.size)) (fun _ _ hx => hx) hr hzr hcs
            refine ⟨.agg r', ?_, .mkAgg f2⟩
            simp only [Instr.build, Sem.run_bind, run_zero hi hzz, run_under hu, run_size he, Result.andThen_ok, f1, Sem.run_pure]
          · cases h
        · cases h
      · cases h
  · cases h

theorem len_sound {t : TypeId} {ts : Array TypeId} {ty : TypeId} {x x' v : Value} {xs : Array Value} (h : lenV P t x = some v) (hx : VRel ρ x x') (ht : ts[0]? = some t) (hxs : xs[0]? = some x') : GivesV P ρ w (Builtin.len_ ts ty xs) v := by
  unfold lenV at h
  unfold Builtin.len_
  simp only [ht, hxs]
  split at h
  · rename_i s hu
    cases h
    rw [hx.string_inv]
    exact ⟨goInt s.size, by simp [run_under hu], .int _ _⟩
  · rename_i e a n c hu
    obtain ⟨a', c', rfl, _⟩ := slice_some hx
    cases h
    exact ⟨goInt n, by simp [run_under hu], .int _ _⟩
  · rename_i n e hu
    cases h
    exact ⟨goInt n, by simp [run_under hu], .int _ _⟩
  · rename_i k e hu
    cases h
    rw [hx.mnil_inv]
    exact ⟨goInt 0, by simp [run_under hu], .int _ _⟩
  · cases h

theorem cap_sound {t : TypeId} {ts : Array TypeId} {ty : TypeId} {x x' v : Value} {xs : Array Value} (h : capV P t x = some v) (hx : VRel ρ x x') (ht : ts[0]? = some t) (hxs : xs[0]? = some x') : GivesV P ρ w (Builtin.cap_ ts ty xs) v := by
  unfold capV at h
  unfold Builtin.cap_
  simp only [ht, hxs]
  split at h
  · rename_i e n c hu
    cases h
    cases hx with
    | snil => exact ⟨goInt 0, by simp [run_under hu], .int _ _⟩
  · cases h
end Go.Ev
