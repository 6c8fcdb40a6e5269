/- The evaluator: new blocks, and stores. -/
import Derived.Test.YtelepfablohdmaaGreatDoorEv9
set_option linter.unusedSimpArgs false
set_option linter.unusedVariables false
namespace Go.Ev

variable {P : Program} {base : Nat} {ρ : Ren} {w : World}

/-- a computation gives a value that is related, and leads to a state that is related -/
def Gives (P : Program) (base : Nat) (ρ : Ren) (h : AHeap) (w : World) (s : Sem Value) (v : Value) (h' : AHeap) : Prop :=
  ∃ ρ' v' w', s.run P w = .ok v' w' ∧ VRel ρ' v v' ∧ Went P base ρ h w ρ' h' w'

theorem GivesV.gives {h : AHeap} {s : Sem Value} {v : Value} (g : GivesV P ρ w s v) (hs : Sim P base ρ h w) : Gives P base ρ h w s v h := by
  obtain ⟨v', h1, h2⟩ := g
  exact ⟨ρ, v', w, h1, h2, .refl hs⟩

theorem CRel.of_rels {c : List Value} {cs : Array Value} (h : VRels ρ c cs.toList) : CRel ρ c cs 0 := by
  have hl := h.length
  rw [Array.length_toList] at hl
  exact ⟨by omega, fun i v e => by rw [Nat.zero_add]; exact h.toArray_get e⟩

/-- a new block of cells -/
theorem Sim.cells {h : AHeap} (s : Sim P base ρ h w) {c : List Value} {cs : Array Value} (e : TypeId) (hc : VRels ρ c cs.toList) :
    Went P base ρ h w (ρ.put h.next ⟨w.heap.size, 0, P.cellsOf e, cs.size⟩) (h.new (.cells c e true)) (w.alloc (.cells cs e)) := by
  refine s.new (.cells c e true) (.cells cs e) (P.cellsOf e) cs.size ⟨fun _ => ⟨rfl, rfl⟩, rfl, rfl, (CRel.of_rels hc).mono (Ren.le_put ?_)⟩
  cases hρ : ρ h.next with
  | none => rfl
  | some p => exact absurd (s.dom hρ) (Nat.lt_irrefl _)

theorem new_ptr {b : Nat} {p : Place} (hp : p.off = 0) : VRel (ρ.put b p) (.pointer (some ⟨b, 0, none⟩)) (.pointer (some ⟨p.block, 0, none⟩)) :=
  .ptr ⟨rfl, rfl, p, Ren.put_self ρ b p, rfl, by simp [hp]⟩

/-- a computation makes a new block -/
def RawA (P : Program) (ρ : Ren) (b : Nat) (w : World) (s : Sem Value) (v : Value) (ob : AObj) : Prop :=
  ∃ v' o' esz total, s.run P w = .ok v' (w.alloc o') ∧ VRel (ρ.put b ⟨w.heap.size, 0, esz, total⟩) v v' ∧ ORel P (ρ.put b ⟨w.heap.size, 0, esz, total⟩) ⟨w.heap.size, 0, esz, total⟩ ob (some o')

theorem RawA.gives {h : AHeap} {c : Sem Value} {v : Value} {ob : AObj} (r : RawA P ρ h.next w c v ob) (s : Sim P base ρ h w) : Gives P base ρ h w c v (h.new ob) := by
  obtain ⟨v', o', esz, total, h1, h2, h3⟩ := r
  exact ⟨_, v', _, h1, h2, s.new ob o' esz total h3⟩

theorem cells_o {b : Nat} (hb : ρ b = none) {c : List Value} {cs : Array Value} (e : TypeId) (n : Nat) (hc : VRels ρ c cs.toList) : ORel P (ρ.put b ⟨n, 0, P.cellsOf e, cs.size⟩) ⟨n, 0, P.cellsOf e, cs.size⟩ (.cells c e true) (some (.cells cs e)) :=
  ⟨fun _ => ⟨rfl, rfl⟩, rfl, rfl, (CRel.of_rels hc).mono (Ren.le_put hb)⟩

theorem box_raw {b : Nat} {t : TypeId} {v v' : Value} {ob : AObj} {f : Nat → Value} (s : ρ b = none) (e : boxA t v = some (ob, f)) (hv : VRel ρ v v') : RawA P ρ b w (Instr.box t v') (f b) ob := by
  unfold boxA at e
  obtain ⟨hf, e⟩ := cond_some e
  cases e
  exact ⟨_, _, _, _, rfl, new_ptr rfl, cells_o s t _ (hv.cells hf)⟩

theorem alloc_raw {b : Nat} {t : TypeId} {ob : AObj} {f : Nat → Value} (s : ρ b = none) (e : allocA P t = some (ob, f)) : RawA P ρ b w (Instr.alloc t true (.tuple #[])) (f b) ob := by
  unfold allocA at e
  split at e
  · rename_i z hz
    cases e
    obtain ⟨i, hi, hzz, hr, _, _, _⟩ := zero_spec (ρ := ρ) hz
    refine ⟨_, _, _, _, ?_, new_ptr rfl, cells_o s t _ hr⟩
    simp only [Instr.alloc, newVar, newRow, Sem.run_bind, run_zero hi hzz, Result.andThen_ok, run_newObj, Sem.run_pure]
    rfl
  · cases e

theorem makeMap_raw {b : Nat} {t : TypeId} {ob : AObj} {f : Nat → Value} (e : makeMapA P t = some (ob, f)) : RawA P ρ b w (Instr.makeMap t none) (f b) ob := by
  unfold makeMapA at e
  split at e
  · cases e
    refine ⟨_, .map #[] 0, 0, 0, rfl, ?_, ⟨rfl, .nil⟩⟩
    exact .map (p := ⟨w.heap.size, 0, 0, 0⟩) (Ren.put_self ρ _ _)
  · cases e

theorem copies_zero (z : List Value) : copies z 0 = [] := rfl
theorem copies_succ (z : List Value) (n : Nat) : copies z (n + 1) = z ++ copies z n := by
  show (List.rec (motive := fun _ => List Value) (copies z n) (fun v _ r => v :: r) z) = _
  generalize copies z n = y
  induction z with
  | nil => rfl
  | cons a z ih => simp only [List.cons_append, ih]
theorem copies_get (z : List Value) : ∀ n : Nat, (copies z n).length = n * z.length ∧ ∀ i, i < n * z.length → (copies z n)[i]? = z[i % z.length]?
  | 0 => ⟨by simp [copies_zero], fun i hi => by simp at hi⟩
  | n + 1 => by
    obtain ⟨h1, h2⟩ := copies_get z n
    refine ⟨by rw [copies_succ, List.length_append, h1, Nat.add_mul]; omega, fun i hi => ?_⟩
    rw [copies_succ]
    by_cases hz : i < z.length
    · rw [List.getElem?_append_left hz, Nat.mod_eq_of_lt hz]
    · rw [List.getElem?_append_right (by omega), h2 (i - z.length) (by rw [Nat.add_mul] at hi; omega)]
      congr 1
      rw [← Nat.mod_eq_sub_mod (by omega)]

theorem made_rel {z : Array Value} {n size : Nat} (hz : VRels ρ z.toList z.toList) (hs : z.toList.length = size) : VRels ρ (copies z.toList n) (madeCells z (n * size)).toList := by
  obtain ⟨h1, h2⟩ := copies_get z.toList n
  refine rels_of_get (by rw [size_madeCells, h1, hs]) fun i v hv => ?_
  have hi : i < n * z.toList.length := by
    rcases Nat.lt_or_ge i (copies z.toList n).length with h | h
    · omega
    · rw [List.getElem?_eq_none h] at hv; cases hv
  rw [h2 i hi] at hv
  obtain ⟨v', e1, e2⟩ := hz.toArray_get hv
  refine ⟨v', ?_, e2⟩
  have hpos : i % z.toList.length < z.toList.length := Nat.mod_lt _ (by
    rcases Nat.eq_zero_or_pos z.toList.length with h0 | h0
    · rw [h0] at hi; simp at hi
    · exact h0)
  rw [Array.length_toList] at hpos e1 hi
  rw [hs.symm, Array.length_toList]
  have : i < (Array.range (n * z.size)).size := by simpa using hi
  simp only [madeCells, Array.getElem?_map, Array.getElem?_range]
  rw [if_pos hi]
  simp only [Option.map_some]
  rw [← e1, getElem!_pos z _ hpos, Array.getElem?_eq_getElem hpos]

theorem new_slice {b n c cap : Nat} {p : Place} (hp : p.off = 0) (hc : capRel cap c) (hn : n ≤ capLo cap) (hw : c * p.esz ≤ p.total) : VRel (ρ.put b p) (.slice (some ⟨b, 0, none⟩) n cap) (.slice (some ⟨p.block, 0, none⟩) n c) :=
  .sl (p := p) ⟨rfl, rfl, p, Ren.put_self ρ b p, rfl, by simp [hp]⟩ hc hn (Ren.put_self ρ b p) (.inr (by simp only [hp, Nat.zero_add]; exact hw))

theorem capRel_ex (c : Nat) : capRel (EX + c) c := ⟨by rw [capLo_ex]; exact Nat.le_refl _, fun _ => (capLo_ex c).symm⟩

theorem cellsOf_eq {t : TypeId} {i : TypeInfo} (h : P.info? t = some i) : P.cellsOf t = i.size := by simp [Program.cellsOf, h]

theorem fillL_length {place : Nat → Option (Nat × Nat)} : ∀ {parts : List (Nat × Value)} {cs r : List Value}, fillL place parts cs = some r → r.length = cs.length
  | [], cs, r, h => by
    have : some cs = some r := h
    cases this; rfl
  | (i, v) :: l, cs, r, h => by
    have h' : (match place i with
      | some (off, size) => cond (Nat.beq v.cells.toList.length size && allFlat v.cells.toList) (match over cs off v.cells.toList with
        | some cs => fillL place l cs
        | none => none) none
      | none => none) = some r := h
    split at h'
    · obtain ⟨_, h'⟩ := cond_some h'
      split at h'
      · rename_i cs2 hov
        rw [fillL_length h', (over_get _ _ _ _ hov).1]
      · cases h'
    · cases h'

theorem buildSlice_raw {b : Nat} {t : TypeId} {len : Nat} {parts : List (Nat × Value)} {parts' : Array (Nat × Value)} {ob : AObj} {f : Nat → Value} (s : ρ b = none) (e : buildSliceA P t len parts = some (ob, f)) (hr : PRels ρ parts parts'.toList) : RawA P ρ b w (Instr.buildSlice t len parts') (f b) ob := by
  unfold buildSliceA at e
  split at e
  · rename_i elem hu
    split at e
    · rename_i i z hi hz
      obtain ⟨i', hi', hzz, hzr, hlen, _, _⟩ := zero_spec (ρ := ρ) hz
      rw [hi] at hi'; cases hi'
      obtain ⟨hb, e⟩ := cond_some e
      have hb := Nat.le_of_ble_eq_true hb
      split at e
      · rename_i cs hcs
        cases e
        obtain ⟨r', f1, f2⟩ := fill_sound (place' := fun j => some (j * i.size, i.size)) (fun _ _ hx => hx) hr (made_rel (n := len) hzr hlen) hcs
        have hsz : r'.size = len * i.size := by
          have := f2.length
          rw [Array.length_toList, fillL_length hcs, (copies_get _ _).1, hlen] at this
          exact this
        refine ⟨_, _, _, _, ?_, new_slice (p := ⟨w.heap.size, 0, P.cellsOf elem, r'.size⟩) rfl (capRel_ex len) (by rw [capLo_ex]; exact Nat.le_refl _) (by show len * P.cellsOf elem ≤ r'.size; rw [hsz, cellsOf_eq hi]; exact Nat.le_refl _), cells_o s elem _ f2⟩
        have hn : ¬ len * i.size > 2 ^ 24 := by simp only [Nat.reducePow]; omega
        unfold Instr.buildSlice
        simp only [Sem.run_bind, run_under hu, run_size hi, Result.andThen_ok, hn, if_false, Sem.run_pure, Sem.run_ite]
        by_cases h0 : len * i.size = 0
        · have q2 : (Array.range (len * i.size)).map (fun x => (#[] : Array Value)[x % (#[] : Array Value).size]!) = madeCells z.cells (len * i.size) := by rw [h0]; simp [madeCells]
          rw [if_pos h0]
          simp only [Result.andThen_ok, q2, f1, newRow, Sem.run_bind, run_newObj, Sem.run_pure]
          rfl
        · have q2 : (Array.range (len * i.size)).map (fun x => z.cells[x % z.cells.size]!) = madeCells z.cells (len * i.size) := rfl
          rw [if_neg h0]
          simp only [run_zero hi hzz, Result.andThen_ok, q2, f1, newRow, Sem.run_bind, run_newObj, Sem.run_pure]
          rfl
      · cases e
    · cases e
  · cases e

theorem ble_and {a b : Bool} (h : (a && b) = true) : a = true ∧ b = true := by simpa using h

theorem makeSlice_raw {b : Nat} {t : TypeId} {l l' c c' : Value} {ob : AObj} {f : Nat → Value} (s : ρ b = none) (e : makeSliceA P t l c = some (ob, f)) (hl : VRel ρ l l') (hc : VRel ρ c c') : RawA P ρ b w (Instr.makeSlice t l' c') (f b) ob := by
  unfold makeSliceA at e
  split at e
  · rename_i elem ln cn hu el ec
    obtain ⟨kl, rfl⟩ := natOf_eq el
    obtain ⟨kc, rfl⟩ := natOf_eq ec
    rw [hl.int_inv, hc.int_inv]
    split at e
    · rename_i i z hi hz
      obtain ⟨i', hi', hzz, hzr, hlen, _, _⟩ := zero_spec (ρ := ρ) hz
      rw [hi] at hi'; cases hi'
      obtain ⟨hb, e⟩ := cond_some e
      cases e
      obtain ⟨hb, b3⟩ := ble_and hb
      obtain ⟨b1, b2⟩ := ble_and hb
      have b1 := Nat.le_of_ble_eq_true b1
      have b2 := Nat.le_of_ble_eq_true b2
      have b3 := Nat.le_of_ble_eq_true b3
      have hbytes : (i.bytes : Int) * (cn : Int) ≤ 281474976710656 := by
        have : ((cn * i.bytes : Nat) : Int) ≤ 1000000000 := by omega
        rw [Int.natCast_mul, Int.mul_comm] at this
        omega
      have hrun := run_make (P := P) w t elem i z hu hi hzz kl kc ln cn (by omega) (by omega) hbytes (by omega)
      rw [Int.toNat_natCast, Int.toNat_natCast] at hrun
      have hm := made_rel (ρ := ρ) (n := cn) hzr hlen
      refine ⟨_, _, _, _, hrun, new_slice (p := ⟨w.heap.size, 0, P.cellsOf elem, (madeCells z.cells (cn * i.size)).size⟩) rfl (capRel_ex cn) (by rw [capLo_ex]; exact b1) ?_, cells_o s elem _ hm⟩
      show cn * P.cellsOf elem ≤ (madeCells z.cells (cn * i.size)).size
      rw [size_madeCells, cellsOf_eq hi]
      exact Nat.le_refl _
    · cases e
  · cases e

/-! ### stores -/
theorem put_inv {h h' : AHeap} {a : Addr} {vs : List Value} (e : putCells h a vs = some h') : a.spot = none ∧ ∃ c t c', h.get a.block = some (.cells c t true) ∧ over c a.off vs = some c' ∧ h' = h.set a.block (.cells c' t true) := by
  unfold putCells at e
  split at e
  · rename_i c t hs hg
    split at e
    · rename_i c' hc
      rw [AHeap.setK_eq] at e
      cases e
      exact ⟨hs, c, t, c', hg, hc, rfl⟩
    · cases e
  · cases e

theorem get_app (l vs : List Value) (o i : Nat) (h : o + vs.length ≤ l.length) : (l.take o ++ vs ++ l.drop (o + vs.length))[i]? = if o ≤ i ∧ i < o + vs.length then vs[i - o]? else l[i]? := by
  rw [List.append_assoc]
  by_cases h1 : i < o
  · rw [List.getElem?_append_left (by simp; omega), List.getElem?_take, if_pos h1, if_neg (by omega)]
  · rw [List.getElem?_append_right (by simp; omega)]
    have hlen : (l.take o).length = o := by simp; omega
    rw [hlen]
    by_cases h2 : i < o + vs.length
    · rw [if_pos (by omega), List.getElem?_append_left (by omega)]
    · rw [if_neg (by omega), List.getElem?_append_right (by omega), List.getElem?_drop]
      congr 1; omega

/-- cells that are written -/
theorem put_sound {h h' : AHeap} {a a' : Addr} {vs vs' : List Value} (s : Sim P base ρ h w) (e : putCells h a vs = some h') (ha : ARel ρ a a') (hv : VRels ρ vs vs') (hf : allFlat vs = true) :
    ∃ w', (storeCells a' vs').run P w = .ok () w' ∧ Went P base ρ h w ρ h' w' := by
  obtain ⟨_, c, t, c', hg, hov, rfl⟩ := put_inv e
  obtain ⟨p, hp, rfl⟩ := ha.eta
  obtain ⟨cs, hw, hesz, htot, hc⟩ := cells_inv (s.rel.rd _ _ _ hp hg)
  obtain ⟨o1, o2, o3⟩ := over_get _ _ _ _ hov
  have hlen := hv.length
  have hfit : a.off + p.off + vs'.length ≤ cs.size := by have := hc.1; omega
  have hrun := run_storeCells_at P p.block (a.off + p.off) t vs' 0 cs w hw (by omega) (hv.oneCell hf)
  simp only [Nat.add_zero] at hrun
  refine ⟨_, hrun, ?_⟩
  refine s.write (o := .cells c' t true) hp hg rfl rfl (by simp) (fun k hk => setRow_other w _ _ _ hk) rfl rfl rfl ?_
  rw [setRow_heap w p.block cs _ t (0, 0) hw]
  have hget : ∀ i, ((cs.toList.take (a.off + p.off) ++ vs' ++ cs.toList.drop (a.off + p.off + vs'.length)).toArray)[i]? = if a.off + p.off ≤ i ∧ i < a.off + p.off + vs'.length then vs'[i - (a.off + p.off)]? else cs[i]? := by
    intro i
    have := get_app cs.toList vs' (a.off + p.off) i (by simpa using hfit)
    simpa using this
  have hsize : ((cs.toList.take (a.off + p.off) ++ vs' ++ cs.toList.drop (a.off + p.off + vs'.length)).toArray).size = cs.size := by
    simp; omega
  refine ⟨fun _ => ⟨rfl, rfl⟩, hesz, by rw [hsize]; exact htot, by rw [hsize, o1]; exact hc.1, fun i v hi => ?_⟩
  rw [o3 i] at hi
  rw [hget]
  by_cases hin : a.off ≤ i ∧ i < a.off + vs.length
  · rw [if_pos hin] at hi
    rw [if_pos (by omega), show p.off + i - (a.off + p.off) = i - a.off by omega]
    exact hv.get hi
  · rw [if_neg hin] at hi
    rw [if_neg (by omega)]
    exact hc.2 i v hi

/-- an operation without a value -/
def GivesU (P : Program) (base : Nat) (ρ : Ren) (h : AHeap) (w : World) (s : Sem Unit) (v : Value) (h' : AHeap) : Prop :=
  ∃ w', s.run P w = .ok () w' ∧ v = undef ∧ Went P base ρ h w ρ h' w'

theorem store_sound {h h' : AHeap} {t : TypeId} {x x' v v' r : Value} (s : Sim P base ρ h w) (e : storeOp P h t x v = some (r, h')) (hx : VRel ρ x x') (hv : VRel ρ v v') : GivesU P base ρ h w (Instr.storeAt t x' v') r h' := by
  unfold storeOp at e
  split at e
  · rename_i i a hi
    obtain ⟨hb, e⟩ := cond_some e
    obtain ⟨b1, b2⟩ := ble_and hb
    have b1 := Nat.eq_of_beq_eq_true b1
    obtain ⟨a', rfl, ha⟩ := hx.ptr_inv
    have hc := hv.cells b2
    have hlen := hc.length
    rw [Array.length_toList, Array.length_toList] at hlen
    rw [Array.length_toList] at b1
    have hsz : ¬ (v'.cells.size ≠ i.size) := by omega
    have hstart : ∀ w', (storeCells a' v'.cells.toList).run P w = .ok () w' → (Instr.storeAt t (.pointer (some a')) v').run P w = .ok () w' := by
      intro w' hw'
      simp only [Instr.storeAt, Instr.sureAddr, storeVar, Sem.run_bind, Sem.run_pure, Result.andThen_ok, run_size hi, hsz, if_false, hw']
    split at e
    · rename_i hnil
      cases e
      refine ⟨w, hstart w ?_, rfl, .refl s⟩
      rw [hnil] at hc
      cases hl : v'.cells.toList with
      | nil => rfl
      | cons x l => rw [hl] at hc; cases hc
    · split at e
      · rename_i h2 hp
        cases e
        obtain ⟨w', h1, h3⟩ := put_sound s hp ha hc b2
        exact ⟨w', hstart w' h1, rfl, h3⟩
      · cases e
  · cases e
end Go.Ev
