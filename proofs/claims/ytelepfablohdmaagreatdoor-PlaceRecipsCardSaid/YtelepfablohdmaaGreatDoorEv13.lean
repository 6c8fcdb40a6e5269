/- The evaluator: append and copy, over states. -/
import Derived.Test.YtelepfablohdmaaGreatDoorEv12
set_option linter.unusedSimpArgs false
set_option linter.unusedVariables false
namespace Go.Ev

variable {P : Program} {base : Nat} {ρ : Ren} {w : World}

/-- a draw -/
theorem Sim.drew {h : AHeap} (s : Sim P base ρ h w) : Went P base ρ h w ρ h w.drew :=
  ⟨⟨⟨s.rel.obj, s.rel.inj, s.rel.size, s.rel.lo⟩, s.void, s.room⟩, ⟨Ren.le_refl ρ, ⟨rfl, rfl, rfl, Nat.le_refl _, fun _ _ => rfl⟩, fun _ _ _ => rfl, (fun b p h1 h2 => by rw [h2] at h1; cases h1), Nat.le_refl _, fun _ _ _ => rfl, fun b h1 h2 => absurd h1 (Nat.not_le.2 h2)⟩⟩

/-- a new block of cells, with spare ones -/
theorem Sim.cellsC {h : AHeap} (s : Sim P base ρ h w) {c : List Value} {cs : Array Value} (e : TypeId) (hc : CRel ρ c cs 0) :
    Went P base ρ h w (ρ.put h.next ⟨w.heap.size, 0, P.cellsOf e, cs.size⟩) (h.new (.cells c e true)) (w.alloc (.cells cs e)) :=
  s.new (.cells c e true) (.cells cs e) (P.cellsOf e) cs.size ⟨fun _ => ⟨rfl, rfl⟩, rfl, rfl, hc.mono (Ren.le_put s.unmet)⟩

/-- nothing may look at a block any more -/
theorem Sim.kill {h : AHeap} (s : Sim P base ρ h w) {b : Nat} {p : Place} (hb : ρ b = some p) : Went P base ρ h w ρ (h.set b .dead) w := by
  refine ⟨⟨⟨?_, ?_, s.rel.size, ?_⟩, ?_, s.room⟩, ⟨Ren.le_refl ρ, .refl _ _, fun _ _ _ => rfl, (fun b p h1 h2 => by rw [h2] at h1; cases h1), Nat.le_refl _, ?_, fun b h1 h2 => absurd h1 (Nat.not_le.2 h2)⟩⟩
  · intro c q hc
    by_cases e : b = c
    · subst e; exact ⟨.dead, by rw [get_setH, if_pos rfl], trivial⟩
    · obtain ⟨o, h1, h2⟩ := s.rel.obj c q hc
      exact ⟨o, by rw [get_setH, if_neg e]; exact h1, h2⟩
  · intro b₁ b₂ p₁ p₂ o₁ o₂ h1 h2 g1 g2 l1 l2 hp
    rw [get_setH] at g1 g2
    by_cases e1 : b = b₁
    · rw [if_pos e1] at g1; cases g1; cases l1
    · by_cases e2 : b = b₂
      · rw [if_pos e2] at g2; cases g2; cases l2
      · rw [if_neg e1] at g1
        rw [if_neg e2] at g2
        exact s.rel.inj _ _ _ _ _ _ h1 h2 g1 g2 l1 l2 hp
  · intro c q o hc ho hrw
    rw [get_setH] at ho
    split at ho
    · cases ho; cases hrw
    · exact s.rel.lo c q o hc ho hrw
  · intro c hc
    have hlt := s.dom hb
    rw [get_setH, if_neg (by show ¬ b = c; intro e; subst e; exact absurd hlt (Nat.not_lt.2 hc))]
    exact s.void c hc
  · intro c _ hn
    rw [get_setH, if_neg (by intro e; subst e; rw [hb] at hn; cases hn)]

/-- a block goes on under a new name, with cells that were written behind a part of it -/
theorem Sim.fork {h : AHeap} (s : Sim P base ρ h w) {b : Nat} {p : Place} {c cNew : List Value} {e off : Nat} {cs csNew : Array Value} (hb : ρ b = some p) (hg : h.get b = some (.cells c e true))
    (hw : w.heap[p.block]? = some (.cells cs e (0, 0))) (hesz : p.esz = P.cellsOf e) (htot : p.total = cs.size) (hsz : csNew.size = cs.size) (hc : CRel ρ cNew csNew (off + p.off)) :
    Went P base ρ h w (ρ.put h.next ⟨p.block, off + p.off, p.esz, p.total⟩) ((h.set b .dead).new (.cells cNew e true)) (w.setRow p.block csNew) := by
  have hnone := s.unmet
  have hle := Ren.le_put (p := ⟨p.block, off + p.off, p.esz, p.total⟩) hnone
  have hbn : b < h.next := s.dom hb
  have hget : ∀ k, ((h.set b .dead).new (.cells cNew e true)).get k = if h.next = k then some (.cells cNew e true) else if b = k then some .dead else h.get k := fun k => by
    rw [get_new, get_setH]; rfl
  have hnew := setRow_heap w p.block cs csNew e (0, 0) hw
  have hsame : ∀ k, k ≠ p.block → (w.setRow p.block csNew).heap[k]? = w.heap[k]? := fun k hk => setRow_other w _ _ _ hk
  have hlo := s.rel.lo b p _ hb hg rfl
  have hlive : ∀ b₁ p₁ o₁, ρ b₁ = some p₁ → h.get b₁ = some o₁ → o₁.live = true → b₁ ≠ b → p₁.block ≠ p.block := fun b₁ p₁ o₁ h1 h2 h3 hne hq =>
    hne (s.rel.inj _ _ _ _ _ _ hb h1 hg h2 rfl h3 hq.symm).symm
  refine ⟨⟨⟨?_, ?_, ?_, ?_⟩, ?_, ?_⟩, ⟨hle, ⟨rfl, rfl, rfl, by simp, fun k hk => hsame k (by omega)⟩, ?_, ?_, ?_, ?_, Ren.full_put _⟩⟩
  · intro k q hk
    rw [hget]
    by_cases e1 : h.next = k
    · subst e1
      rw [Ren.put_self] at hk; cases hk
      rw [if_pos rfl]
      refine ⟨_, rfl, ?_⟩
      rw [hnew]
      exact ⟨fun _ => ⟨rfl, rfl⟩, hesz, by rw [hsz]; exact htot, hc.mono hle⟩
    · rw [Ren.put_ne _ _ e1] at hk
      rw [if_neg e1]
      by_cases e2 : b = k
      · rw [if_pos e2]; exact ⟨_, rfl, trivial⟩
      · rw [if_neg e2]
        obtain ⟨o, h1, h2⟩ := s.rel.obj k q hk
        refine ⟨o, h1, ?_⟩
        cases hlv : o.live with
        | true => rw [hsame _ (hlive k q o hk h1 hlv (fun hq => e2 hq.symm))]; exact h2.mono hle
        | false => cases o <;> first | exact trivial | cases hlv
  · intro b₁ b₂ p₁ p₂ o₁ o₂ h1 h2 g1 g2 l1 l2 hp
    rw [hget] at g1 g2
    by_cases e1 : h.next = b₁
    · by_cases e2 : h.next = b₂
      · rw [← e1, ← e2]
      · subst e1
        rw [Ren.put_self] at h1; cases h1
        rw [Ren.put_ne _ _ e2] at h2
        rw [if_neg e2] at g2
        by_cases e3 : b = b₂
        · rw [if_pos e3] at g2; cases g2; cases l2
        · rw [if_neg e3] at g2
          exact absurd hp.symm (hlive _ _ _ h2 g2 l2 (fun hq => e3 hq.symm))
    · rw [if_neg e1] at g1
      rw [Ren.put_ne _ _ e1] at h1
      by_cases e3 : b = b₁
      · rw [if_pos e3] at g1; cases g1; cases l1
      · rw [if_neg e3] at g1
        by_cases e2 : h.next = b₂
        · subst e2
          rw [Ren.put_self] at h2; cases h2
          exact absurd hp (hlive _ _ _ h1 g1 (rw_live l1) (fun hq => e3 hq.symm))
        · rw [if_neg e2] at g2
          rw [Ren.put_ne _ _ e2] at h2
          by_cases e4 : b = b₂
          · rw [if_pos e4] at g2; cases g2; cases l2
          · rw [if_neg e4] at g2
            exact s.rel.inj _ _ _ _ _ _ h1 h2 g1 g2 l1 l2 hp
  · intro k q hk
    rw [setRow_size]
    by_cases e1 : h.next = k
    · subst e1; rw [Ren.put_self] at hk; cases hk; exact s.rel.size b p hb
    · rw [Ren.put_ne _ _ e1] at hk; exact s.rel.size k q hk
  · intro k q o hk ho hrw
    by_cases e1 : h.next = k
    · subst e1; rw [Ren.put_self] at hk; cases hk; exact hlo
    · rw [Ren.put_ne _ _ e1] at hk
      rw [hget, if_neg e1] at ho
      split at ho
      · cases ho; cases hrw
      · exact s.rel.lo k q o hk ho hrw
  · intro k hk
    have hk' : Nat.succ h.next ≤ k := hk
    rw [hget, if_neg (by omega), if_neg (by omega)]
    exact s.void k (by omega)
  · rw [setRow_size]; exact s.room
  · intro k _ hk
    exact hsame k (fun e => hk b p hb e.symm)
  · intro k q hk hn
    by_cases e1 : h.next = k
    · subst e1; rw [Ren.put_self] at hk; cases hk; exact ⟨Nat.le_refl _, .inr ⟨b, p, hb, rfl⟩⟩
    · rw [Ren.put_ne _ _ e1, hn] at hk; cases hk
  · exact Nat.le_succ _
  · intro k hk hn
    rw [hget, if_neg (by omega), if_neg (by intro e; subst e; rw [hb] at hn; cases hn)]

theorem not_ex {n : Nat} (h : n ≤ 1000000000000000) : isEx n = false := by
  cases he : isEx n with
  | false => rfl
  | true =>
    have : EX ≤ n := Nat.le_of_ble_eq_true he
    have h2 : (18446744073709551616 : Nat) ≤ n := this
    omega

theorem new_slice' {ρ : Ren} {b n c : Nat} {p : Place} {a' : Addr} (ha : a' = ⟨p.block, p.off, none⟩) (hn : n ≤ 1000000000000000) (hc : n ≤ c) (hw : p.off + c * p.esz ≤ p.total) : VRel (ρ.put b p) (sliceTo b n) (.slice (some a') n c) := by
  have hx := not_ex hn
  have hl := capLo_not hx
  subst ha
  exact .sl (p := p) ⟨rfl, rfl, p, Ren.put_self ρ b p, rfl, by simp⟩ ⟨by rw [hl]; exact hc, fun hq => by rw [hx] at hq; cases hq⟩ (by rw [hl]; exact Nat.le_refl _) (Ren.put_self ρ b p) (.inr (by simpa using hw))

theorem CRel.append_array {c : List Value} {cs : Array Value} (h : VRels ρ c cs.toList) (more : Array Value) : CRel ρ c (cs ++ more) 0 := by
  have hl := h.length
  rw [Array.length_toList] at hl
  refine ⟨by simp; omega, fun i v hi => ?_⟩
  obtain ⟨v', h1, h2⟩ := h.toArray_get hi
  refine ⟨v', ?_, h2⟩
  rw [Nat.zero_add, Array.getElem?_append, if_pos ?_]
  · exact h1
  · obtain ⟨hlt, _⟩ := Array.getElem?_eq_some_iff.1 h1; exact hlt

theorem slice_cases {b b' : Option Addr} {n c c' : Nat} (h : VRel ρ (.slice b n c) (.slice b' n c')) : (b = none ∧ b' = none ∧ n = 0 ∧ c = 0 ∧ c' = 0) ∨
    (∃ a a' p, b = some a ∧ b' = some a' ∧ ARel ρ a a' ∧ capRel c c' ∧ n ≤ capLo c ∧ ρ a.block = some p ∧ (isEx c = true ∨ a.off + p.off + c' * p.esz ≤ p.total)) ∨
    (∃ a', b = some ⟨0, 0, some 0⟩ ∧ b' = some a' ∧ n = 0 ∧ c = 0) := by
  cases h with
  | snil => exact .inl ⟨rfl, rfl, rfl, rfl, rfl⟩
  | sl h1 h2 h3 h4 h5 => exact .inr (.inl ⟨_, _, _, rfl, rfl, h1, h2, h3, h4, h5⟩)
  | sj a' c' => exact .inr (.inr ⟨_, rfl, rfl, rfl, rfl⟩)

section
variable {t xt ty elem : TypeId} {i : TypeInfo} {z x : Value} {xd : TypeDesc} {ts : Array TypeId} {args : Array Value}

theorem appendIn_sound {h h' : AHeap} {b : Option Addr} {b' : Option Addr} {sLen sCap sCap' n : Nat} {new : List Value} {new' : Array Value} {v : Value} (s : Sim P base ρ h w) (e : appendIn h elem i.size i.bytes b sLen sCap (sLen + n) new = some (v, h'))
    (hts : ts[0]? = some t) (hxs : ts[1]? = some xt) (ha : args[0]? = some (.slice b' sLen sCap')) (hx : args[1]? = some x)
    (ht : P.underlying t = some (.slice elem)) (hxt : P.underlying xt = some xd) (hi : P.info? elem = some i) (hzv : zeroV P elem = some z)
    (hs : VRel ρ (.slice b sLen sCap) (.slice b' sLen sCap')) (hadd : Adds P w i.size i.bytes xd z x n new') (hr : VRels ρ new new'.toList) (hf : allFlat new = true) (hlen : new.length = n * i.size) :
    Gives P base ρ h w (Builtin.append_ ts ty args) v h' := by
  obtain ⟨i', hi', hzz, hzr, hzl, _, _⟩ := zero_spec (ρ := ρ) hzv
  rw [hi] at hi'; cases hi'
  have hnl : new'.size = n * i.size := by have := hr.length; rw [Array.length_toList] at this; omega
  have hzs : z.cells.size = i.size := by simpa using hzl
  unfold appendIn at e
  cases hroom : Nat.ble (sLen + n) (capLo sCap) with
  | true =>
    rw [hroom] at e
    simp only [cond_true] at e
    have hroom := Nat.le_of_ble_eq_true hroom
    rcases slice_cases hs with ⟨rfl, rfl, h1, h2, h3⟩ | ⟨a, a', p, rfl, rfl, ha', hc, hn, hp, hw⟩ | ⟨a', rfl, rfl, h1, h2⟩
    · have hn : sLen + n = 0 := by rw [h2] at hroom; exact Nat.le_zero.1 hroom
      cases e
      refine ⟨ρ, _, _, run_append_in hts hxs ha hx ht hxt hi hzz hadd (by omega) (w' := w) (by intro a ha; cases ha) (fun _ => rfl), ?_, .refl s⟩
      rw [hn, h2, h3]; exact .snil
    · have hle : sLen + n ≤ sCap' := Nat.le_trans hroom hc.1
      cases new with
      | nil =>
        cases e
        refine ⟨ρ, _, _, run_append_in hts hxs ha hx ht hxt hi hzz hadd hle (w' := w) ?_ (by intro hq; cases hq), .sl ha' hc hroom hp hw, .refl s⟩
        intro a2 ha2
        have : new'.toList = [] := by cases hl : new'.toList with
          | nil => rfl
          | cons q l => rw [hl] at hr; cases hr
        rw [this]; rfl
      | cons q l =>
        dsimp only at e
        split at e
        · rename_i h2 hput
          cases e
          obtain ⟨w', h1, h3⟩ := put_sound s hput (ha'.add _) hr hf
          refine ⟨ρ, _, _, run_append_in hts hxs ha hx ht hxt hi hzz hadd hle (w' := w') ?_ (by intro hq; cases hq), .sl ha' hc hroom hp hw, h3⟩
          intro a2 ha2; cases ha2; exact h1
        · cases e
    · have hn : sLen + n = 0 := by rw [h2] at hroom; exact Nat.le_zero.1 hroom
      cases new with
      | nil =>
        cases e
        refine ⟨ρ, _, _, run_append_in hts hxs ha hx ht hxt hi hzz hadd (by omega) (w' := w) ?_ (by intro hq; cases hq), ?_, .refl s⟩
        · intro a2 ha2
          have : new'.toList = [] := by cases hl : new'.toList with
            | nil => rfl
            | cons q l => rw [hl] at hr; cases hr
          rw [this]; rfl
        · rw [hn, h2]; exact .sj a' _
      | cons q l =>
        dsimp only at e
        split at e
        · rename_i h2 hput
          obtain ⟨hsp, _⟩ := put_inv hput
          have : (Addr.add ⟨0, 0, some 0⟩ (sLen * i.size)) = ⟨0, 0, some 0⟩ := by
            rw [show sLen = 0 by omega, Nat.zero_mul]; rfl
          rw [this] at hsp; cases hsp
        · cases e
  | false =>
    rw [hroom] at e
    simp only [cond_false] at e
    have hroom : ¬ sLen + n ≤ capLo sCap := fun hq => by rw [Nat.ble_eq_true_of_le hq] at hroom; cases hroom
    obtain ⟨hb, e⟩ := cond_some e
    rw [Bool.or_eq_true] at hb
    have big : sLen + n ≤ 1000000000000000 := by
      rcases hb with hb | hb
      · have := Nat.le_of_ble_eq_true (ble_and hb).2; omega
      · unfold nilRoom at hb
        split at hb
        · exact Nat.le_of_ble_eq_true (ble_and hb).2
        · exact Nat.le_of_ble_eq_true (ble_and (ble_and hb).2).2
    -- a new block
    have grows : ∀ (h₁ : AHeap) (old : List Value) (old' : Array Value), Sim P base ρ h₁ w → ¬ sLen + n ≤ sCap' → ¬ (Builtin.nextslicecap (sLen + n) sCap' * i.bytes > 2 ^ 48) → (∀ w₁ : World, w₁.heap = w.heap → (Builtin.firstCells i.size sLen (.slice b' sLen sCap')).run P w₁ = .ok old' w₁) → VRels ρ old old'.toList → old.length = sLen * i.size →
        ∃ ρ' v' w', (Builtin.append_ ts ty args).run P w = .ok v' w' ∧ VRel ρ' (sliceTo h₁.next (sLen + n)) v' ∧ Went P base ρ h₁ w ρ' (h₁.new (.cells (old ++ new) elem true)) w' := by
      intro h₁ old old' s₁ hno h48 hold hro hlo
      have hrun := run_append_new (ty := ty) hts hxs ha hx ht hxt hi hzz hadd hno big h48 (hold w.drew rfl)
      have hge := grownCap_ge w (sLen + n) sCap' elem
      have hol : old'.size = sLen * i.size := by have := hro.length; rw [Array.length_toList] at this; omega
      have hcells : VRels ρ (old ++ new) (old' ++ new').toList := by rw [Array.toList_append]; exact hro.append hr
      have d1 := s₁.drew
      have d2 := d1.sim.cellsC elem (CRel.append_array hcells (Builtin.zeroCells z.cells (grownCap w (sLen + n) sCap' elem - (sLen + n))))
      refine ⟨_, _, _, hrun, new_slice' (p := ⟨w.heap.size, 0, P.cellsOf elem, (old' ++ new' ++ Builtin.zeroCells z.cells (grownCap w (sLen + n) sCap' elem - (sLen + n))).size⟩) rfl big hge ?_, d1.trans d2⟩
      show 0 + grownCap w (sLen + n) sCap' elem * P.cellsOf elem ≤ (old' ++ new' ++ Builtin.zeroCells z.cells (grownCap w (sLen + n) sCap' elem - (sLen + n))).size
      rw [Array.size_append, Array.size_append, size_zeroCells, hol, hnl, hzs, cellsOf_eq hi, ← Nat.add_mul, ← Nat.add_mul]
      rw [show sLen + n + (grownCap w (sLen + n) sCap' elem - (sLen + n)) = grownCap w (sLen + n) sCap' elem by omega]
      omega
    rcases slice_cases hs with ⟨rfl, rfl, h1, h2, h3⟩ | ⟨a, a', p, rfl, rfl, ha', hc, hn, hp, hw⟩ | ⟨a', rfl, rfl, h1, h2⟩
    · cases e
      have hno : ¬ sLen + n ≤ sCap' := by intro hq; rw [h3] at hq; exact hroom (by rw [h2]; exact Nat.le_trans hq (Nat.zero_le _))
      have h48 : ¬ (Builtin.nextslicecap (sLen + n) sCap' * i.bytes > 2 ^ 48) := by
        rcases hb with hb | hb
        · exact h48_of hno (Nat.le_of_ble_eq_true (ble_and hb).1)
        · rw [h3]
          exact h48_nil (by omega) (Nat.le_of_ble_eq_true (ble_and hb).1)
      obtain ⟨ρ', v', w', k1, k2, k3⟩ := grows h [] #[] s hno h48 (fun w₁ _ => rfl) .nil (by rw [h1]; simp)
      exact ⟨ρ', v', w', k1, k2, k3⟩
    · have hb0 := hb
      dsimp only at e
      unfold appendNew at e
      split at e
      · rename_i c t' rw' hsp hg
        split at e
        · rename_i old hold
          obtain ⟨cs, eb, fz, hwc, hst0, hesz, htot, hcr⟩ := cells_inv' (s.rel.rd _ _ _ hp hg)
          obtain ⟨q, hq, rfl⟩ := ha'.eta
          rw [hp] at hq; cases hq
          obtain ⟨old', ho1, ho2⟩ := loadCells_sound (P := P) hp rfl hwc hcr hold
          have hol := (cut_get hold).1
          have hold' : ∀ w₁ : World, w₁.heap = w.heap → (Builtin.firstCells i.size sLen (.slice (some ⟨p.block, a.off + p.off, none⟩) sLen sCap')).run P w₁ = .ok old' w₁ := fun w₁ hw₁ => ho1 w₁ hw₁
          cases hex : isEx sCap with
          | true =>
            rw [hex] at e
            simp only [cond_true] at e
            cases e
            have hcc := hc.2 hex
            have h48 : ¬ (Builtin.nextslicecap (sLen + n) sCap' * i.bytes > 2 ^ 48) := by
              rcases hb0 with hb | hb
              · exact h48_of (by rw [hcc]; exact hroom) (Nat.le_of_ble_eq_true (ble_and hb).1)
              · have hE := Nat.eq_of_beq_eq_true (ble_and hb).1
                have h0 : sCap' = 0 := by rw [hcc, hE]; exact capLo_ex 0
                rw [h0]
                have hpos : ¬ sLen + n ≤ 0 := by rw [hE] at hroom; have := capLo_ex 0; rw [Nat.add_zero] at this; rw [this] at hroom; exact hroom
                exact h48_nil (by omega) (Nat.le_of_ble_eq_true (ble_and (ble_and hb).2).1)
            exact grows h old old' s (by rw [hcc]; exact hroom) h48 hold' ho2 hol
          | false =>
            rw [hex] at e
            simp only [cond_false] at e
            have hb1 : (2 * (sLen + n) + 1000) * i.bytes ≤ 100000000000000 := by
              rcases hb0 with hb | hb
              · exact Nat.le_of_ble_eq_true (ble_and hb).1
              · have hE := Nat.eq_of_beq_eq_true (ble_and hb).1
                rw [hE] at hex
                have := isEx_ex 0
                rw [Nat.add_zero] at this
                rw [this] at hex; cases hex
            obtain ⟨hb3, e9⟩ := cond_some e
            obtain ⟨hb5, hb4⟩ := ble_and hb3
            have hb4 := Nat.eq_of_beq_eq_true hb4
            subst hb4
            subst hb5
            rw [(hst0 rfl).1, (hst0 rfl).2] at hwc
            cases e9
            by_cases hin : sLen + n ≤ sCap'
            · -- the model may write in place
              have hw := hw.resolve_left (by rw [hex]; exact fun q => by cases q)
              have hsz : p.esz = i.size := by rw [hesz, cellsOf_eq hi]
              have hmul : (sLen + n) * i.size ≤ sCap' * i.size := Nat.mul_le_mul_right _ hin
              have hfit : a.off + p.off + sLen * i.size + new'.toList.length ≤ cs.size := by
                rw [Array.length_toList, hnl, ← htot]
                rw [hsz] at hw
                rw [Nat.add_mul] at hmul
                omega
              have hst := run_storeCells_at P p.block (a.off + p.off + sLen * i.size) t' new'.toList 0 cs w hwc (by omega) (hr.oneCell hf)
              simp only [Nat.add_zero] at hst
              have hrun := run_append_in (ty := ty) hts hxs ha hx ht hxt hi hzz hadd hin (w' := _) (by
                intro a2 ha2; cases ha2
                rw [addr_add]; exact hst) (by intro hq; cases hq)
              refine ⟨ρ.put h.next ⟨p.block, a.off + p.off, p.esz, p.total⟩, _, _, hrun, new_slice' (p := ⟨p.block, a.off + p.off, p.esz, p.total⟩) rfl big hin hw, ?_⟩
              refine s.fork hp hg hwc hesz htot (by simp; rw [Array.length_toList] at hfit; omega) ⟨?_, ?_⟩
              · simp only [List.length_append, hol, hlen, List.size_toArray, List.length_take, List.length_drop, Array.length_toList] at hfit ⊢
                omega
              · intro j u hj
                have hget := get_app cs.toList new'.toList (a.off + p.off + sLen * i.size) (a.off + p.off + j) (by simpa using hfit)
                rw [List.getElem?_append] at hj
                by_cases hjl : j < old.length
                · rw [if_pos hjl] at hj
                  obtain ⟨hj1, hj2⟩ := (cut_get hold).2 j u hj
                  obtain ⟨u', h1, h2⟩ := hcr.2 _ _ hj2
                  refine ⟨u', ?_, h2⟩
                  rw [if_neg (by omega)] at hget
                  have : cs[a.off + p.off + j]? = some u' := by rw [show a.off + p.off + j = p.off + (a.off + j) by omega]; exact h1
                  simp only [Array.getElem?_toList, this] at hget
                  simpa using hget
                · rw [if_neg hjl] at hj
                  obtain ⟨u', h1, h2⟩ := hr.get hj
                  refine ⟨u', ?_, h2⟩
                  have hjn : j - old.length < new'.toList.length := by
                    rcases Nat.lt_or_ge (j - old.length) new'.toList.length with hh | hh
                    · exact hh
                    · rw [List.getElem?_eq_none hh] at h1; cases h1
                  rw [if_pos (by omega), show a.off + p.off + j - (a.off + p.off + sLen * i.size) = j - old.length by omega, h1] at hget
                  simpa using hget
            · have k1 := s.kill hp
              obtain ⟨ρ', v', w', h1, h2, h3⟩ := grows (h.set a.block .dead) old old' k1.sim hin (h48_of hin hb1) hold' ho2 hol
              exact ⟨ρ', v', w', h1, h2, k1.trans h3⟩
        · cases e
      · cases e
    · dsimp only at e
      unfold appendNew at e
      split at e
      · rename_i hsp _; cases hsp
      · cases e

theorem append_sound {h h' : AHeap} {s s' x' v : Value} (st : Sim P base ρ h w) (e : appendOp P h t xt s x = some (v, h'))
    (hts : ts[0]? = some t) (hxs : ts[1]? = some xt) (ha : args[0]? = some s') (hx : args[1]? = some x') (hs : VRel ρ s s') (hxr : VRel ρ x x') :
    Gives P base ρ h w (Builtin.append_ ts ty args) v h' := by
  unfold appendOp at e
  split at e
  · rename_i elem' xd' b sLen sCap ht hxt
    obtain ⟨b', c', rfl, _⟩ := slice_some hs
    split at e
    · rename_i i' z' hi hz
      obtain ⟨i'', hi'', hzz, hzr, hzl, _, hzf⟩ := zero_spec (ρ := ρ) hz
      rw [hi] at hi''; cases hi''
      cases hxd : intD xd' with
      | true =>
        rw [hxd] at e
        simp only [cond_true] at e
        unfold appendZ at e
        split at e
        · rename_i n hn
          obtain ⟨k, rfl⟩ := natOf_eq hn
          obtain ⟨hb, e⟩ := cond_some e
          obtain ⟨hb1, hb2⟩ := ble_and hb
          have hb1 := Nat.le_of_ble_eq_true hb1
          have hb2 := Nat.le_of_ble_eq_true hb2
          rw [hxr.int_inv] at hx
          have hm := made_rel (ρ := ρ) (n := n) hzr hzl
          have hzc : (if n * i'.size = 0 then #[] else Builtin.zeroCells z'.cells n) = madeCells z'.cells (n * i'.size) := by
            have hzs : z'.cells.size = i'.size := by simpa using hzl
            by_cases h0 : n * i'.size = 0
            · rw [if_pos h0, h0]; simp [madeCells]
            · rw [if_neg h0]; simp only [Builtin.zeroCells, madeCells, hzs]
          have hflat : ∀ q, allFlat (copies z'.cells.toList q) = true := by
            intro q
            induction q with
            | zero => rfl
            | succ q ih =>
              rw [copies_succ]
              have : ∀ l m : List Value, allFlat l = true → allFlat m = true → allFlat (l ++ m) = true := by
                intro l m hl hm
                induction l with
                | nil => exact hm
                | cons a l ihl =>
                  have hl' : Bool.rec (motive := fun _ => Bool) false (allFlat l) (flat a) = true := hl
                  show Bool.rec (motive := fun _ => Bool) false (allFlat (l ++ m)) (flat a) = true
                  cases hfa : flat a with
                  | false => rw [hfa] at hl'; cases hl'
                  | true => rw [hfa] at hl'; exact ihl hl'
              exact this _ _ hzf ih
          exact appendIn_sound st e hts hxs ha hx ht hxt hi hz hs ⟨.inr ⟨hxd, ⟨k, rfl⟩, hb1, hb2, hzc.symm⟩⟩ hm (hflat n) (by rw [(copies_get _ _).1, hzl])
        · cases e
      | false =>
        rw [hxd] at e
        simp only [cond_false] at e
        unfold appendS at e
        split at e
        · rename_i n hn
          split at e
          · rename_i new hnew
            obtain ⟨hf, e⟩ := cond_some e
            obtain ⟨new', h1, h2, h3, h4⟩ := src_sound (P := P) (w := w) st.rel.rd hnew hxr hn (Nat.le_refl _)
            exact appendIn_sound st e hts hxs ha hx ht hxt hi hz hs ⟨.inl ⟨hxd, fun w₁ hw₁ => ⟨h4 w₁, h1 w₁ hw₁⟩⟩⟩ h2 hf h3
          · cases e
        · cases e
    · cases e
  · cases e

theorem copy_sound {h h' : AHeap} {d d' s s' v : Value} (st : Sim P base ρ h w) (e : copyOp P h t d s = some (v, h'))
    (hts : ts[0]? = some t) (ha : args[0]? = some d') (hx : args[1]? = some s') (hd : VRel ρ d d') (hs : VRel ρ s s') :
    Gives P base ρ h w (Builtin.copy_ ts ty args) v h' := by
  unfold copyOp at e
  split at e
  · rename_i elem' b dLen dCap m ht hm
    obtain ⟨b', c', rfl, hbn⟩ := slice_some hd
    split at e
    · rename_i i' hi
      split at e
      · rename_i cs hcs
        obtain ⟨cs', h1, h2, h3, h4⟩ := src_sound (P := P) (w := w) st.rel.rd hcs hs hm (Nat.min_le_left _ _)
        have hstart : ∀ w', (∀ a, b' = some a → (storeCells a cs'.toList).run P w = .ok () w') → (b' = none → w' = w) → (Builtin.copy_ ts ty args).run P w = .ok (goInt (Nat.min m dLen)) w' := by
          intro w' hst hnil
          unfold Builtin.copy_
          simp only [hts, ha, hx, Sem.run_bind, run_under ht, Result.andThen_ok, h4 w, run_size hi, h1 w rfl]
          cases b' with
          | none => rw [hnil rfl]; rfl
          | some a => simp only [Sem.run_bind, hst a rfl, Result.andThen_ok, Sem.run_pure]
        split at e
        · cases e
          cases b' with
          | some _ => cases hbn
          | none => exact ⟨ρ, _, w, hstart w (by intro a hq; cases hq) (fun _ => rfl), .int _ _, .refl st⟩
        · cases e
          have hnil : cs'.toList = [] := by cases hl : cs'.toList with
            | nil => rfl
            | cons q l => rw [hl] at h2; cases h2
          exact ⟨ρ, _, w, hstart w (by intro a _; rw [hnil]; rfl) (fun _ => rfl), .int _ _, .refl st⟩
        · rename_i a q l
          split at e
          · rename_i h2' hput
            cases e
            obtain ⟨hf, hput⟩ := cond_some hput
            have ha' : ∃ a', b' = some a' ∧ ARel ρ a a' := by
              rcases slice_cases hd with ⟨h0, _⟩ | ⟨a0, a', p, h0, hb0, hr0, _⟩ | ⟨a', h0, _⟩
              · cases h0
              · cases h0; exact ⟨a', hb0, hr0⟩
              · cases h0
                obtain ⟨hsp, _⟩ := put_inv hput
                cases hsp
            obtain ⟨a', rfl, har⟩ := ha'
            obtain ⟨w', k1, k2⟩ := put_sound st hput har h2 hf
            exact ⟨ρ, _, w', hstart w' (by intro a2 ha2; cases ha2; exact k1) (by intro hq; cases hq), .int _ _, k2⟩
          · cases e
      · cases e
    · cases e
  · cases e
end
end Go.Ev
