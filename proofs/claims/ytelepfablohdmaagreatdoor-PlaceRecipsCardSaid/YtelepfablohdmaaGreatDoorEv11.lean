/- The evaluator: maps, append, copy. -/
import Derived.Test.YtelepfablohdmaaGreatDoorEv10
set_option linter.unusedSimpArgs false
set_option linter.unusedVariables false
namespace Go.Ev

variable {P : Program} {base : Nat} {ρ : Ren} {w : World}

/-! ### maps -/
theorem findNow_key {d : TypeDesc} {k : Value} : ∀ {es : List MapEntry} {i j : Nat} {v : Value}, Instr.findNow d k es i = some (some (j, v)) → i ≤ j ∧ ∃ e, es[j - i]? = some e ∧ Instr.sameNow d k e.key = some true
  | [], i, j, v, h => by
    have : some none = some (some (j, v)) := h
    cases this
  | e :: es, i, j, v, h => by
    unfold Instr.findNow at h
    split at h
    · rename_i hs
      cases h
      exact ⟨Nat.le_refl _, e, by simp, hs⟩
    · obtain ⟨h1, e', h2, h3⟩ := findNow_key h
      exact ⟨by omega, e', by rw [show j - i = (j - (i + 1)) + 1 by omega]; simpa using h2, h3⟩
    · cases h

theorem sameNow_true {d : TypeDesc} {x y : Value} (h : Instr.sameNow d x y = some true) : Instr.sameBits 10000 y x = true := by
  unfold Instr.sameNow at h
  split at h
  · split at h
    · rename_i hk
      cases hk
      have h' := Option.some.inj h
      have := of_decide_eq_true (p := _) (by simpa using h')
      simp only [Instr.sameBits]
      simp_all
    · cases h
  · have h' := Option.some.inj h
    rw [beq_toListBytes] at h'
    simp only [Instr.sameBits, beq_toListBytes]
    rw [eq_of_beq h']
    exact beq_self_eq_true _
  · have h' := Option.some.inj h
    have := eq_of_beq h'
    subst this
    simp [Instr.sameBits]
  · cases h

theorem modE_zero (k v : Value) (e : MapEntry) (es : List MapEntry) : modE k v (e :: es) 0 = { e with key := k, val := v } :: es := rfl
theorem modE_succ (k v : Value) (e : MapEntry) (es : List MapEntry) (i : Nat) : modE k v (e :: es) (i + 1) = e :: modE k v es i := rfl

theorem mod_rel {k k' v v' : Value} (hk : VRel ρ k k') (hv : VRel ρ v v') : ∀ {es es' : List MapEntry} (i : Nat), ERels ρ es es' → ERels ρ (modE k v es i) (es'.modify i fun e => { e with key := k', val := v' })
  | _, _, i, .nil => by
    cases i <;> exact .nil
  | _, _, 0, .cons _ _ hb ht => by
    rw [modE_zero, List.modify_zero_cons]; exact .cons hk hv hb ht
  | _, _, i + 1, .cons h1 h2 hb ht => by
    rw [modE_succ, List.modify_succ_cons]; exact .cons h1 h2 hb (mod_rel hk hv i ht)

theorem ERels.push : ∀ {es es' : List MapEntry}, ERels ρ es es' → ∀ {e e' : MapEntry}, VRel ρ e.key e'.key → VRel ρ e.val e'.val → e'.born = e.born → ERels ρ (es ++ [e]) (es' ++ [e'])
  | _, _, .nil, _, _, h1, h2, h3 => .cons h1 h2 h3 .nil
  | _, _, .cons a b c t, _, _, h1, h2, h3 => .cons a b c (t.push h1 h2 h3)

/-- an object that is no row of cells is put in another's place -/
theorem Sim.putObj {h : AHeap} (s : Sim P base ρ h w) {b : Nat} {p : Place} {o₀ o : AObj} {x x' : Obj} (hb : ρ b = some p) (h0 : h.get b = some o₀) (hrw : o₀.rw = true) (hl : o.rw = true) (hx : w.heap[p.block]? = some x) (ho : ORel P ρ p o (some x')) :
    Went P base ρ h w ρ (h.set b o) { w with heap := w.heap.setIfInBounds p.block x' } := by
  have hlt := s.rel.size b p hb
  refine s.write hb h0 hrw hl (by simp) (fun c hc => by simp only [Array.getElem?_setIfInBounds]; rw [if_neg (fun e => hc e.symm)]) rfl rfl rfl ?_
  simp only [Array.getElem?_setIfInBounds]
  rw [if_pos trivial, if_pos hlt]
  exact ho

theorem update_sound {h h' : AHeap} {t : TypeId} {m m' k k' v v' r : Value} (s : Sim P base ρ h w) (e : updateOp P h t m k v = some (r, h')) (hm : VRel ρ m m') (hk : VRel ρ k k') (hv : VRel ρ v v') : GivesU P base ρ h w (Instr.mapUpdate t m' k' v') r h' := by
  unfold updateOp at e
  split at e
  · rename_i key elem rr hu
    obtain ⟨p, rfl, hp⟩ := hm.map_inv
    split at e
    · rename_i d es clock hd hg
      obtain ⟨hpl, e⟩ := cond_some e
      obtain ⟨es', hw, he⟩ := map_inv (s.rel.rd _ _ _ hp hg)
      have hget : (getObj p.block).run P w = .ok (.map es' clock) w := by simp [getObj, Sem.run, hw]
      have hset : ∀ o : Obj, (setObj p.block o).run P w = .ok () { w with heap := w.heap.setIfInBounds p.block o } := by
        intro o; simp [setObj, Sem.run, hw]
      split at e
      · rename_i i u hf
        rw [AHeap.setK_eq] at e
        cases e
        obtain ⟨r', h1, h2⟩ := find_sound hk he hf
        rcases h2 with ⟨h2, _⟩ | ⟨j, v1, v2, e1, e2, e3, e4, e5⟩
        · cases h2
        · cases e1; subst e2
          obtain ⟨_, ent, hent, hsame⟩ := findNow_key h1
          rw [Nat.sub_zero] at hent
          have hent' : es'[i]? = some ent := by simpa using hent
          have hstay : (Instr.keyThatStays (((es'[i]?).map (·.key)).getD k') k').run P w = .ok k' w := by
            rw [hent']
            simp only [Option.map_some, Option.getD_some, Instr.keyThatStays, sameNow_true hsame, if_true, Sem.run_pure]
          refine ⟨_, ?_, rfl, s.putObj (o := .map (modE k v es i) clock) (x' := .map (es'.modify i fun e => { e with key := k', val := v' }) clock) hp hg rfl rfl hw ⟨rfl, ?_⟩⟩
          · unfold Instr.mapUpdate
            simp only [Sem.run_bind, run_under hu, Result.andThen_ok, hget, run_checkKey hd hpl, run_findKey hd h1, hstay, hset]
          · rw [Array.toList_modify]
            exact mod_rel hk hv i he
      · rename_i hf
        rw [AHeap.setK_eq] at e
        cases e
        obtain ⟨r', h1, h2⟩ := find_sound hk he hf
        rcases h2 with ⟨_, h2⟩ | ⟨j, v1, v2, e1, _⟩
        · subst h2
          refine ⟨_, ?_, rfl, s.putObj (o := .map (es ++ [{ key := k, val := v, born := clock }]) (Nat.succ clock)) (x' := .map (es'.push { key := k', val := v', born := clock }) (clock + 1)) hp hg rfl rfl hw ⟨rfl, ?_⟩⟩
          · unfold Instr.mapUpdate
            simp only [Sem.run_bind, run_under hu, Result.andThen_ok, hget, run_checkKey hd hpl, run_findKey hd h1, hset]
          · rw [Array.toList_push]
            exact he.push hk hv rfl
        · cases e1
      · cases e
    · cases e
  · cases e

/-! ### the cells that append and copy read -/
theorem str_cells : ∀ (l : List UInt8), VRels ρ (l.map fun b => Value.int .u8 b.toNat) (l.map fun b => Value.int .u8 b.toNat)
  | [] => .nil
  | b :: l => .cons (.int _ _) (str_cells l)

theorem src_sound {h : AHeap} {size n m : Nat} {x x' : Value} {l : List Value} (hr : RdRel P ρ h.get w) (e : srcCells h size n x = some l) (hx : VRel ρ x x') (hm : srcLen x = some m) (hn : n ≤ m) :
    ∃ l', (∀ w₁ : World, w₁.heap = w.heap → (Builtin.firstCells size n x').run P w₁ = .ok l' w₁) ∧ VRels ρ l l'.toList ∧ l.length = n * size ∧ ∀ w₁ : World, (Builtin.lenOf x').run P w₁ = .ok m w₁ := by
  unfold srcCells at e
  split at e
  · rename_i a sl sc
    have hm' := Option.some.inj hm
    subst hm'
    have hlen : ∀ w₁ : World, (Builtin.lenOf x').run P w₁ = .ok sl w₁ := by
      obtain ⟨b', c', rfl, _⟩ := slice_some hx
      exact fun w₁ => rfl
    cases hz : Nat.beq (n * size) 0 with
    | true =>
      rw [hz] at e
      cases e
      have h0 : n * size = 0 := Nat.eq_of_beq_eq_true hz
      refine ⟨#[], fun w₁ _ => ?_, .nil, h0.symm, hlen⟩
      obtain ⟨b', c', rfl, hb⟩ := slice_some hx
      cases b' with
      | none => cases hb
      | some b' => simp [Builtin.firstCells, h0, loadCells, loadCellsFrom]
    | false =>
      rw [hz] at e
      simp only [cond_false] at e
      split at e
      · rename_i c t rw hs hg
        cases hx with
        | sl ha hc hn' hp hw' =>
          rename_i a' c' p
          obtain ⟨q, hq, rfl⟩ := ha.eta
          obtain ⟨cs, eb, fz, hw, _, _, _, hcr⟩ := cells_inv' (hr _ _ _ hq hg)
          obtain ⟨l', h1, h2⟩ := loadCells_sound (P := P) hq rfl hw hcr e
          exact ⟨l', fun w₁ hw₁ => h1 w₁ hw₁, h2, (cut_get e).1, hlen⟩
        | sj => cases hs
      · cases e
  · have hm' := Option.some.inj hm
    subst hm'
    cases e
    cases hx with
    | snil =>
      have h0 : n = 0 := Nat.le_zero.1 hn
      subst h0
      exact ⟨#[], fun w₁ _ => rfl, .nil, by simp, fun w₁ => rfl⟩
  · rename_i s
    obtain ⟨hsz, e⟩ := cond_some e
    have hsz := Nat.eq_of_beq_eq_true hsz
    subst hsz
    have hm' := Option.some.inj hm
    subst hm'
    cases e
    rw [hx.string_inv]
    refine ⟨(s.extract 0 n).data.map fun b => .int .u8 b.toNat, fun w₁ _ => rfl, ?_, by simp at hn ⊢; omega, fun w₁ => by simp [Builtin.lenOf]⟩
    have : ((s.extract 0 n).data.map fun b => Value.int .u8 b.toNat).toList = (s.data.toList.take n).map fun b => Value.int .u8 b.toNat := by
      simp [ByteArray.data_extract, List.extract_eq_take_drop]
    rw [this]
    exact str_cells _
  · cases e

end Go.Ev
