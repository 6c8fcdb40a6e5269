/- The evaluator: slice expressions, new blocks, stores. -/
import Derived.Test.YtelepfablohdmaaGreatDoorEv8
import Derived.Laws.MakeOwn
set_option linter.unusedSimpArgs false
set_option linter.unusedVariables false
namespace Go.Ev

variable {P : Program} {base : Nat} {ρ : Ren} {w : World}

theorem pv_inv {h h' : AHeap} {o : Option Value} {v : Value} (e : pv h o = some (v, h')) : o = some v ∧ h' = h := by
  unfold pv at e
  split at e
  · cases e; exact ⟨rfl, rfl⟩
  · cases e

theorem rd_inv {h h' : AHeap} {o : Option (Nat × (AObj → Option Value))} {v : Value} (e : rd h o = some (v, h')) : h' = h ∧ ∃ b f ob, o = some (b, f) ∧ h.get b = some ob ∧ f ob = some v := by
  unfold rd at e
  split at e
  · split at e
    · rename_i b f _ ob hob
      obtain ⟨h1, h2⟩ := pv_inv e
      exact ⟨h2, b, f, ob, rfl, hob, h1⟩
    · cases e
  · cases e

theorem al_inv {h h' : AHeap} {o : Made} {v : Value} (e : al h o = some (v, h')) : ∃ ob f, o = some (ob, f) ∧ v = f h.next ∧ h' = h.new ob := by
  unfold al at e
  split at e
  · rename_i ob f
    rw [AHeap.newK_eq] at e
    cases e
    exact ⟨ob, f, rfl, rfl, rfl⟩
  · cases e

theorem ble_add (E m : Nat) : Nat.ble E (E + m) = true := Nat.ble_eq_true_of_le (Nat.le_add_right _ _)
theorem cond_add (E m : Nat) : cond (Nat.ble E (E + m)) (E + m - E) (E + m) = m := by
  rw [ble_add]; exact Nat.add_sub_cancel_left _ _
theorem capLo_ex (m : Nat) : capLo (EX + m) = m := cond_add EX m
theorem isEx_ex (m : Nat) : isEx (EX + m) = true := ble_add EX m
theorem capLo_not {c : Nat} (h : isEx c = false) : capLo c = c := by
  unfold capLo; rw [show Nat.ble EX c = false from h]; rfl

theorem sliceStr_sound {t : TypeId} {x x' v : Value} {lo hi mx lo' hi' mx' : Option Value} (hu : P.underlying t = some .string) (h : sliceStr x lo hi mx = some v) (hx : VRel ρ x x') (h1 : ORelV ρ lo lo') (h2 : ORelV ρ hi hi') (h3 : ORelV ρ mx mx') : GivesV P ρ w (Instr.sliceAt t x' lo' hi' mx') v := by
  unfold sliceStr at h
  split at h
  · rename_i s
    split at h
    · rename_i l hh m hb
      cases h
      rw [hx.string_inv]
      have hmx : mx' = none := by cases mx' with
        | none => rfl
        | some _ => exact h3.elim
      subst hmx
      obtain ⟨hr, k1, k2, k3, _⟩ := bounds_sound (P := P) (w := w) (b := false) (c' := s.size) hb h1 h2 h3 (by simp)
      have hs : s.extract l hh = ⟨((s.data.toList.drop l).take (hh - l)).toArray⟩ := by
        apply ByteArray.ext
        apply Array.ext'
        simp [ByteArray.data_extract, List.extract_eq_take_drop]
      have hlen : s.data.toList.length = s.size := by simp
      rw [hlen] at hr
      refine ⟨.string (s.extract l hh), ?_, by rw [hs]; exact .string _⟩
      simp [Instr.sliceAt, Instr.slice, run_under hu, hr]
    · cases h
  · cases h

theorem sliceSl_sound {h h' : AHeap} {t elem : TypeId} {i : TypeInfo} {x x' v : Value} {lo hi mx lo' hi' mx' : Option Value} (hr : RdRel P ρ h.get w) (hu : P.underlying t = some (.slice elem)) (hi0 : P.info? elem = some i) (e : sliceSl h elem i.size x lo hi mx = some (v, h')) (hx : VRel ρ x x') (h1 : ORelV ρ lo lo') (h2 : ORelV ρ hi hi') (h3 : ORelV ρ mx mx') :
    h' = h ∧ GivesV P ρ w (Instr.sliceAt t x' lo' hi' mx') v := by
  unfold sliceSl at e
  split at e
  · rename_i a len cap
    split at e
    · rename_i l hh m hb
      obtain ⟨a', c', rfl, hc0⟩ : ∃ a' c', x' = .slice a' len c' ∧ capLo cap ≤ c' := by
        cases hx with
        | snil => exact ⟨_, _, rfl, Nat.zero_le _⟩
        | sl h hc => exact ⟨_, _, rfl, hc.1⟩
        | sj => exact ⟨_, _, rfl, Nat.zero_le _⟩
      obtain ⟨hrun, k1, k2, k3, k4⟩ := bounds_sound (P := P) (w := w) (b := true) hb h1 h2 h3 hc0
      have hgo : (Instr.sliceAt t (.slice a' len c') lo' hi' mx').run P w = .ok (.slice (if (if mx.isSome then m else c') = l then a' else a'.map (·.add (l * i.size))) (hh - l) ((if mx.isSome then m else c') - l)) w := by
        simp only [Instr.sliceAt, Instr.slice, Sem.run_bind, run_under hu, Result.andThen_ok, hrun, run_size hi0, Sem.run_pure]
      split at e
      · obtain ⟨e1, e2⟩ := pv_inv e
        cases e1
        refine ⟨e2, _, hgo, ?_⟩
        cases hx with
        | snil =>
          have hm : m = 0 := by have : capLo 0 = 0 := rfl; omega
          have hl : l = 0 := by omega
          have hhh : hh = 0 := by omega
          subst hm hl hhh
          simp
          exact .snil
      · rename_i a
        split at e
        · rename_i s hs
          obtain ⟨e1, e2⟩ := pv_inv e
          cases e1
          refine ⟨e2, _, hgo, ?_⟩
          cases hx with
          | sl ha => have := ha.1; rw [hs] at this; cases this
          | sj a2 c2 =>
            have hm : m = 0 := by have : capLo 0 = 0 := rfl; omega
            have hl : l = 0 := by omega
            have hhh : hh = 0 := by omega
            subst hl hhh
            have : ∀ (c : Prop) [Decidable c] (y : Addr), (if c then some a2 else (some a2).map (·.add (0 * i.size))) = some a2 := by
              intro c _ _; split <;> simp [Addr.add]
            rw [this _ a2]
            exact .sj _ _
        · rename_i hs
          cases hx with
          | sl ha hc hn hp hw =>
            rename_i a2 p
            cases hl0 : Nat.beq l 0 with
            | true =>
              rw [hl0] at e
              simp only [cond_true] at e
              have hl : l = 0 := Nat.eq_of_beq_eq_true hl0
              subst hl
              obtain ⟨e1, e2⟩ := pv_inv e
              cases e1
              refine ⟨e2, _, hgo, ?_⟩
              have h0 : (if (if mx.isSome then m else c') = 0 then some a2 else (some a2).map (·.add (0 * i.size))) = some a2 := by
                split <;> simp [Addr.add]
              rw [h0, Nat.sub_zero, Nat.sub_zero]
              cases hmx : mx.isSome with
              | true =>
                simp only [cond_true, if_true]
                have hE : capLo (EX + m) = m := capLo_ex m
                exact .sl ha ⟨by rw [hE]; exact Nat.le_refl _, fun _ => hE.symm⟩ (by rw [hE]; exact k2) hp (.inl (isEx_ex m))
              | false =>
                simp only [cond_false, Bool.false_eq_true, if_false]
                exact .sl ha hc (by omega) hp hw
            | false =>
              rw [hl0] at e
              have hl : l ≠ 0 := fun hh => by rw [hh] at hl0; cases hl0
              simp only [cond_false] at e
              cases hhl : Nat.beq hh l with
              | true =>
                rw [hhl] at e
                simp only [cond_true] at e
                have hl' : hh = l := Nat.eq_of_beq_eq_true hhl
                subst hl'
                obtain ⟨e1, e2⟩ := pv_inv e
                cases e1
                refine ⟨e2, _, hgo, ?_⟩
                rw [Nat.sub_self]
                have : ∃ y, (if (if mx.isSome then m else c') = hh then some a2 else (some a2).map (·.add (hh * i.size))) = some y := by
                  generalize (if mx.isSome then m else c') = q
                  by_cases hq : q = hh
                  · exact ⟨a2, if_pos hq⟩
                  · exact ⟨a2.add (hh * i.size), if_neg hq⟩
                obtain ⟨y, hy⟩ := this
                rw [hy]
                exact .sj _ _
              | false =>
                rw [hhl] at e
                simp only [cond_false] at e
                have hlt : l < hh := by
                  have : hh ≠ l := fun hq => by rw [hq] at hhl; simp at hhl
                  omega
                have hcap := hc.1
                have hne : ¬ (if mx.isSome then m else c') = l := by
                  split <;> omega
                have hoff : (a.add (l * i.size)).off = a.off + l * i.size := by
                  unfold Addr.add; split
                  · rename_i hz; rw [hz]; rfl
                  · rfl
                have hblk : (a.add (l * i.size)).block = a.block := by
                  unfold Addr.add; split <;> rfl
                cases hbig : (mx.isSome || isEx cap) with
                | true =>
                  rw [hbig, cond_true] at e
                  obtain ⟨e1, e2⟩ := pv_inv e
                  cases e1
                  refine ⟨e2, _, hgo, ?_⟩
                  rw [if_neg hne]
                  have hE : capLo (EX + (m - l)) = m - l := capLo_ex _
                  cases hmx : mx.isSome with
                  | true =>
                    simp only [if_true, Option.map_some]
                    exact .sl (ha.add _) ⟨by rw [hE]; exact Nat.le_refl _, fun _ => hE.symm⟩ (by rw [hE]; omega) (by rw [hblk]; exact hp) (.inl (isEx_ex _))
                  | false =>
                    have hex : isEx cap = true := by rw [hmx, Bool.false_or] at hbig; exact hbig
                    have hm := k4 (by cases mx with
                      | none => rfl
                      | some _ => cases hmx)
                    subst hm
                    simp only [Bool.false_eq_true, if_false, Option.map_some]
                    have hcc := hc.2 hex
                    exact .sl (ha.add _) ⟨by rw [hE, hcc]; exact Nat.le_refl _, fun _ => by rw [hE, hcc]⟩ (by rw [hE]; omega) (by rw [hblk]; exact hp) (.inl (isEx_ex _))
                | false =>
                  rw [hbig, cond_false] at e
                  rw [Bool.or_eq_false_iff] at hbig
                  obtain ⟨hmx, hex⟩ := hbig
                  obtain ⟨e2, b, f, ob, eo, hob, hf⟩ := rd_inv e
                  cases eo
                  dsimp only at hf
                  split at hf
                  · rename_i c eo rw
                    obtain ⟨he, hf⟩ := cond_some hf
                    cases hf
                    have heq : eo = elem := Nat.eq_of_beq_eq_true he
                    subst heq
                    obtain ⟨cs, eb, fz, hwc, _, hesz, htot, hcr⟩ := cells_inv' (hr _ _ _ hp hob)
                    have hsz : p.esz = i.size := by rw [hesz, Program.cellsOf, hi0]; rfl
                    refine ⟨e2, _, hgo, ?_⟩
                    rw [if_neg hne]
                    have hmul : ∀ y, l ≤ y → y ≤ c' → a.off + p.off + c' * p.esz ≤ p.total → a.off + l * i.size + p.off + (y - l) * p.esz ≤ p.total := by
                      intro y hy1 hy2 hw
                      have e1 : l * i.size + (y - l) * p.esz = y * p.esz := by
                        rw [hsz, ← Nat.add_mul]; congr 1; omega
                      have e2 : y * p.esz ≤ c' * p.esz := Nat.mul_le_mul_right _ hy2
                      omega
                    have hm := k4 (by cases mx with
                      | none => rfl
                      | some _ => cases hmx)
                    subst hm
                    simp only [hmx, Bool.false_eq_true, if_false, Option.map_some]
                    have hlt' : ¬ EX ≤ capLo cap - l := by
                      have : ¬ EX ≤ cap := by
                        intro hh'
                        have : isEx cap = true := Nat.ble_eq_true_of_le hh'
                        rw [hex] at this; cases this
                      have := capLo_not hex
                      omega
                    have hnex : isEx (capLo cap - l) = false := by
                      cases hb' : isEx (capLo cap - l) with
                      | false => rfl
                      | true => exact absurd (Nat.le_of_ble_eq_true hb') hlt'
                    have hlo : capLo (capLo cap - l) = capLo cap - l := capLo_not hnex
                    refine .sl (ha.add _) ⟨by rw [hlo]; omega, fun hq => by rw [hnex] at hq; cases hq⟩ (by rw [hlo]; omega) (by rw [hblk]; exact hp) (.inr ?_)
                    rw [hoff]; exact hmul c' (by omega) (Nat.le_refl _) (hw.resolve_left (by rw [hex]; exact fun q => by cases q))
                  · cases hf
          | sj => cases hs
    · cases e
  · cases e

theorem sliceArr_sound {t elem : TypeId} {n : Nat} {i : TypeInfo} {x x' v : Value} {lo hi mx lo' hi' mx' : Option Value} (hu : P.underlying t = some (.array n elem)) (hi0 : P.info? elem = some i) (e : sliceArr i.size n x lo hi mx = some v) (hx : VRel ρ x x') (h1 : ORelV ρ lo lo') (h2 : ORelV ρ hi hi') (h3 : ORelV ρ mx mx') :
    GivesV P ρ w (Instr.sliceAt t x' lo' hi' mx') v := by
  unfold sliceArr at e
  split at e
  · rename_i a
    split at e
    · rename_i hs
      split at e
      · rename_i l hh m hb
        cases e
        obtain ⟨a', rfl, ha⟩ := hx.ptr_inv
        obtain ⟨hrun, k1, k2, k3, k4⟩ := bounds_sound (P := P) (w := w) (b := false) hb h1 h2 h3 (Nat.le_refl n)
        have hgo : (Instr.sliceAt t (.pointer (some a')) lo' hi' mx').run P w = .ok (.slice (some (if (if mx.isSome then m else n) = l then a' else a'.add (l * i.size))) (hh - l) ((if mx.isSome then m else n) - l)) w := by
          simp only [Instr.sliceAt, Instr.sureAddr, Sem.run_bind, run_under hu, Result.andThen_ok, hrun, run_size hi0, Sem.run_pure]
        have hm : (if mx.isSome then m else n) = m := by
          cases hmx : mx.isSome with
          | true => rfl
          | false =>
            have := k4 (by cases mx with
              | none => rfl
              | some _ => cases hmx)
            simp [this]
        rw [hm] at hgo
        refine ⟨_, hgo, ?_⟩
        have ha2 : ARel ρ (cond (Nat.beq m l) a (a.add (l * i.size))) (if m = l then a' else a'.add (l * i.size)) := by
          cases hb2 : Nat.beq m l with
          | true => rw [cond_true, if_pos (Nat.eq_of_beq_eq_true hb2)]; exact ha
          | false =>
            rw [cond_false, if_neg (fun q => by rw [q, Nat.beq_refl] at hb2; cases hb2)]
            exact ha.add _
        obtain ⟨_, _, p, hp, _, _⟩ := id ha2
        have hE : capLo (EX + (m - l)) = m - l := capLo_ex _
        exact .sl ha2 ⟨by rw [hE]; exact Nat.le_refl _, fun _ => hE.symm⟩ (by rw [hE]; omega) hp (.inl (isEx_ex _))
      · cases e
    · cases e
  · cases e

theorem slice_sound {h h' : AHeap} {t : TypeId} {x x' v : Value} {lo hi mx lo' hi' mx' : Option Value} (hr : RdRel P ρ h.get w) (e : sliceOp P h t x lo hi mx = some (v, h')) (hx : VRel ρ x x') (h1 : ORelV ρ lo lo') (h2 : ORelV ρ hi hi') (h3 : ORelV ρ mx mx') :
    h' = h ∧ GivesV P ρ w (Instr.sliceAt t x' lo' hi' mx') v := by
  unfold sliceOp at e
  split at e
  · rename_i hu
    obtain ⟨e1, e2⟩ := pv_inv e
    exact ⟨e2, sliceStr_sound hu e1 hx h1 h2 h3⟩
  · rename_i elem hu
    split at e
    · rename_i i hi0
      exact sliceSl_sound hr hu hi0 e hx h1 h2 h3
    · cases e
  · rename_i n elem hu
    split at e
    · rename_i i hi0
      obtain ⟨e1, e2⟩ := pv_inv e
      exact ⟨e2, sliceArr_sound hu hi0 e1 hx h1 h2 h3⟩
    · cases e
  · cases e
end Go.Ev
