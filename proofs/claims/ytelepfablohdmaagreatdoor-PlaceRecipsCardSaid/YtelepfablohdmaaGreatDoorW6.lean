/- Arguments in memory: blocks that are only read; slices whose elements are plain cells. -/
import Derived.Test.YtelepfablohdmaaGreatDoorW5
import Derived.Carry
import Derived.SizedLaws
import Derived.WalkKit
import Derived.ProofKit
set_option linter.unusedSimpArgs false
set_option linter.unusedVariables false
namespace Go.Ev
open Go.ChangeShapes Go.WideShapes Go.ChangeAt Go.RowKit

/-- a block of before the call's own is met -/
theorem Sim.addRo {P : Program} {base : Nat} {ρ : Ren} {h : AHeap} {w : World} (s : Sim P base ρ h w) {b : Nat} {cs : Array Value} {e' : TypeId} {fz : Nat × Nat} (hb : w.heap[b]? = some (.cells cs e' fz)) (hlt : b < base) (e : TypeId) (off : Nat) (c : List Value)
    (hc : CRel (ρ.put h.next ⟨b, off, P.cellsOf e, cs.size⟩) c cs off) : Sim P base (ρ.put h.next ⟨b, off, P.cellsOf e, cs.size⟩) (h.new (.cells c e false)) w := by
  have hnone := s.unmet
  have hle := Ren.le_put (p := ⟨b, off, P.cellsOf e, cs.size⟩) hnone
  refine ⟨⟨?_, ?_, ?_, ?_⟩, ?_, s.room⟩
  · intro k p hk
    by_cases e1 : h.next = k
    · subst e1
      rw [Ren.put_self] at hk; cases hk
      refine ⟨_, by rw [get_new, if_pos rfl], ?_⟩
      rw [hb]
      exact ⟨fun h => (nomatch h), rfl, rfl, hc⟩
    · rw [Ren.put_ne _ _ e1] at hk
      obtain ⟨o, h1, h2⟩ := s.rel.obj k p hk
      exact ⟨o, by rw [get_new, if_neg e1]; exact h1, h2.mono hle⟩
  · intro b₁ b₂ p₁ p₂ o₁ o₂ h1 h2 g1 g2 l1 l2 hp
    by_cases e1 : h.next = b₁
    · rw [get_new, if_pos e1] at g1; cases g1; cases l1
    · rw [get_new, if_neg e1] at g1
      rw [Ren.put_ne _ _ e1] at h1
      by_cases e2 : h.next = b₂
      · subst e2
        rw [Ren.put_self] at h2; cases h2
        have := s.rel.lo _ _ _ h1 g1 l1
        have hp' : p₁.block = b := hp
        omega
      · rw [get_new, if_neg e2] at g2
        rw [Ren.put_ne _ _ e2] at h2
        exact s.rel.inj _ _ _ _ _ _ h1 h2 g1 g2 l1 l2 hp
  · intro k p hk
    by_cases e1 : h.next = k
    · subst e1
      rw [Ren.put_self] at hk; cases hk
      exact Nat.lt_of_lt_of_le hlt s.room
    · rw [Ren.put_ne _ _ e1] at hk; exact s.rel.size k p hk
  · intro k p o hk ho hrw
    by_cases e1 : h.next = k
    · rw [get_new, if_pos e1] at ho; cases ho; cases hrw
    · rw [Ren.put_ne _ _ e1] at hk
      rw [get_new, if_neg e1] at ho
      exact s.rel.lo k p o hk ho hrw
  · intro k hk
    have hk' : Nat.succ h.next ≤ k := hk
    rw [get_new, if_neg (by omega)]
    exact s.void k (by omega)

/-- values that say nothing of memory -/
def plainV : Value → Bool
  | .int _ _ => true
  | .bool _ => true
  | .string _ => true
  | _ => false
theorem plain_rel {ρ : Ren} {v : Value} (h : plainV v = true) : VRel ρ v v := by
  cases v <;> first | (exact .int _ _) | (exact .bool _) | (exact .string _) | cases h

/-- elements, cell by cell -/
def flatE {α : Type} (enc : α → List Value) (l : List α) : List Value := l.flatMap enc
theorem flatE_cons {α : Type} (enc : α → List Value) (x : α) (l : List α) : flatE enc (x :: l) = enc x ++ flatE enc l := rfl
theorem flatE_append {α : Type} (enc : α → List Value) (l m : List α) : flatE enc (l ++ m) = flatE enc l ++ flatE enc m := by simp [flatE]
theorem flatE_length {α : Type} {enc : α → List Value} {k : Nat} (hk : ∀ x, (enc x).length = k) : ∀ l : List α, (flatE enc l).length = l.length * k
  | [] => by simp [flatE]
  | x :: l => by rw [flatE_cons, List.length_append, hk, flatE_length hk l, List.length_cons, Nat.succ_mul, Nat.add_comm]
theorem flatE_drop {α : Type} {enc : α → List Value} {k : Nat} (hk : ∀ x, (enc x).length = k) : ∀ (l : List α) (i : Nat), i ≤ l.length → (flatE enc l).drop (i * k) = flatE enc (l.drop i)
  | l, 0, _ => by simp
  | [], i + 1, h => absurd h (Nat.not_succ_le_zero i)
  | x :: l, i + 1, h => by
    rw [flatE_cons, List.drop_append, hk, List.drop_eq_nil_of_le (by rw [hk, Nat.succ_mul]; omega), List.nil_append, show (i + 1) * k - k = i * k by rw [Nat.succ_mul]; omega, flatE_drop hk l i (Nat.le_of_succ_le_succ h)]
    rfl
theorem flatE_cut {α : Type} {enc : α → List Value} {k : Nat} (hk : ∀ x, (enc x).length = k) (l : List α) {i : Nat} (hi : i < l.length) : cut (flatE enc l) (i * k) k = some (enc l[i]) := by
  have hlen := flatE_length hk l
  have h1 : i * k + k ≤ l.length * k := by
    have := Nat.mul_le_mul_right k (show i + 1 ≤ l.length from hi)
    rw [Nat.succ_mul] at this; exact this
  rw [cut_len (by rw [hlen]; exact h1), flatE_drop hk l i (Nat.le_of_lt hi), List.drop_eq_getElem_cons hi, flatE_cons, List.take_append_of_le_length (by rw [hk]; exact Nat.le_refl _), List.take_of_length_le (by rw [hk]; exact Nat.le_refl _)]

/-- a slice that may be read: its elements -/
def SlIn {α : Type} (enc : α → List Value) (k e : Nat) (h : AHeap) (v : Value) (l : List α) : Prop :=
  ∃ a c, v = .slice a l.length c ∧ l.length ≤ capLo c ∧ (l ≠ [] → ∃ b off all rw, a = some ⟨b, off, none⟩ ∧ b < h.next ∧ h.get b = some (.cells all e rw) ∧ ∀ i (hi : i < l.length), cut all (off + i * k) k = some (enc l[i]))
theorem SlIn.gr {α : Type} {enc : α → List Value} {k e : Nat} {h h' : AHeap} {v : Value} {l : List α} (hv : SlIn enc k e h v l) (g : h.next ≤ h'.next ∧ ∀ b, b < h.next → h'.get b = h.get b) : SlIn enc k e h' v l := by
  obtain ⟨a, c, rfl, hc, hv⟩ := hv
  refine ⟨a, c, rfl, hc, fun hne => ?_⟩
  obtain ⟨b, off, all, rw', h1, h2, h3, h4⟩ := hv hne
  exact ⟨b, off, all, rw', h1, Nat.lt_of_lt_of_le h2 g.1, by rw [g.2 b h2]; exact h3, h4⟩

section
variable {P : Program} {w : World} {H : Type} {enc : TypeId × Value → H}

theorem cells_at {a : Addr} {n : Nat} {cs : List Value} (h : w.cells? 0 a n = some cs) : cs.length = n ∧ ∀ i, i < n → w.cell? (a.add i) = cs[i]? := by
  unfold World.cells? at h
  rw [if_pos (Nat.zero_le _)] at h
  refine ⟨by simpa using mapM_some_length h, fun i hi => ?_⟩
  exact mapM_some_get h i i (by simp [hi])

/-- what a slice of plain elements is -/
theorem open_flat {α : Type} {ev : α → List Value} {k fuel : Nat} {t e : TypeId} {cs : List Value} {x : DataW H × List MemPlace} {Good : α → Prop} (hk : ∀ x, (ev x).length = k) (hk0 : 0 < k) (hu : P.underlying t = some (.slice e)) (hce : P.cellsOf e = k)
    (hf : DataW.trod enc P w 0 (fun _ => true) true fuel t cs = some x)
    (sound : ∀ n cs y, DataW.trod enc P w 0 (fun _ => true) true n e cs = some y → ∃ x, cs = ev x ∧ Good x) :
    cs = [.slice none 0 0] ∨ ∃ (a : Addr) (cap : Nat) (l : List α), cs = [.slice (some a) l.length cap] ∧ l.length ≤ cap ∧ cap ≤ maxLen ∧ (∀ x ∈ l, Good x) ∧ (∃ elems rest, x.1 = .slice elems rest ∧ elems.length + rest.length = cap) ∧ (∀ y ∈ MemPlace.row a (cap * k), y ∈ x.2) ∧
      (l ≠ [] → ∃ off cs e' fz, a = ⟨a.block, off, none⟩ ∧ w.heap[a.block]? = some (.cells cs e' fz) ∧ off + cap * k ≤ cs.size ∧ ∀ i u, (flatE ev l)[i]? = some u → cs[off + i]? = some u) := by
  rcases DataW.trod_slice hu hf with ⟨h1, _⟩ | ⟨a, len, cap, elems, rest, n, rfl, rfl, h2, _, hlc, hcm, hel, helem, hrest, _⟩
  · exact .inl h1
  · right
    rw [hce] at helem hrest h2
    obtain ⟨hr1, hr2⟩ := hrest rfl
    have each : ∀ i, i < len → ∃ x, w.cells? 0 (a.add (i * k)) k = some (ev x) ∧ Good x := fun i hi => by
      have := helem i hi
      rw [List.getElem?_eq_getElem (by omega), Option.bind_eq_some_iff] at this
      obtain ⟨cs, h3, h4⟩ := this
      obtain ⟨x, rfl, hg⟩ := sound _ _ _ h4
      exact ⟨x, h3, hg⟩
    have build : ∀ m, m ≤ len → ∃ l : List α, l.length = m ∧ (∀ x ∈ l, Good x) ∧ ∀ i (hi : i < l.length), w.cells? 0 (a.add (i * k)) k = some (ev l[i]) := by
      intro m
      induction m with
      | zero => intro _; exact ⟨[], rfl, fun _ h => (nomatch h), fun i hi => absurd hi (Nat.not_lt_zero i)⟩
      | succ m ih =>
        intro hm
        obtain ⟨l, h3, h4, h5⟩ := ih (by omega)
        obtain ⟨x, h6, h7⟩ := each m (by omega)
        refine ⟨l ++ [x], by simp [h3], fun y hy => ?_, fun i hi => ?_⟩
        · rcases List.mem_append.1 hy with hy | hy
          · exact h4 y hy
          · rw [List.mem_singleton.1 hy]; exact h7
        · by_cases hil : i < l.length
          · rw [List.getElem_append_left hil]; exact h5 i hil
          · have : i = m := by simp at hi; omega
            subst this
            rw [List.getElem_append_right (by omega)]
            simp [h3, h6]
    obtain ⟨l, hl, hgood, hcells⟩ := build len (Nat.le_refl _)
    subst hl
    have hsz : elems.length + rest.length = cap := by omega
    refine ⟨a, cap, l, rfl, hlc, hcm, hgood, ⟨_, _, by rw [h2], by rw [List.length_map, List.length_map]; exact hsz⟩, ?_, fun hne => ?_⟩
    · intro y hy
      rw [h2, hsz]
      exact List.mem_append_left _ hy
    · have hl0 : 0 < l.length := List.length_pos_iff.2 hne
      have cellAt : ∀ i, i < cap * k → ∃ u, w.cell? (a.add i) = some u := by
        intro i hi
        have hq : i / k < cap := (Nat.div_lt_iff_lt_mul hk0).2 hi
        have hm : i % k < k := Nat.mod_lt _ hk0
        have hdm := Nat.div_add_mod i k
        have haddr : ∀ q m, (a.add (q * k)).add m = a.add (q * k + m) := fun q m => by
          unfold Addr.add
          by_cases h1 : q * k = 0
          · by_cases h2 : m = 0
            · simp [h1, h2]
            · simp [h1, h2]
          · by_cases h2 : m = 0
            · simp [h1, h2]
            · simp [h1, h2, Nat.add_assoc]
        have hi' : i / k * k + i % k = i := by rw [Nat.mul_comm]; exact hdm
        by_cases hil : i / k < l.length
        · have h3 := cells_at (hcells _ hil)
          have h4 := h3.2 _ hm
          rw [haddr, hi'] at h4
          rw [h4]
          exact ⟨_, List.getElem?_eq_getElem (by rw [hk]; exact hm)⟩
        · have h3 := hr2 (i / k - l.length) (by omega)
          rw [List.getElem?_eq_getElem (by omega), Option.bind_eq_some_iff] at h3
          obtain ⟨cs, h4, _⟩ := h3
          rw [show l.length + (i / k - l.length) = i / k by omega] at h4
          obtain ⟨h5, h6⟩ := cells_at h4
          have h7 := h6 _ hm
          rw [haddr, hi'] at h7
          rw [h7]
          exact ⟨_, List.getElem?_eq_getElem (by omega)⟩
      have hcap : 0 < cap * k := Nat.mul_pos (by omega) hk0
      obtain ⟨u0, hu0⟩ := cellAt 0 hcap
      have hsp : a.spot = none := World.cell?_spot (a := a) (by simpa [Addr.add] using hu0)
      obtain ⟨b, off, spot⟩ := a
      have hsp' : spot = none := hsp
      subst hsp'
      have hheap : ∃ cs e' fz, w.heap[b]? = some (.cells cs e' fz) := by
        simp only [Addr.add, if_true] at hu0
        unfold World.cell? at hu0
        split at hu0
        · rename_i c e' fz hh
          exact ⟨_, _, _, hh⟩
        · cases hu0
      obtain ⟨cs, e', fz, hheap⟩ := hheap
      have hcell : ∀ i, w.cell? ((⟨b, off, none⟩ : Addr).add i) = cs[off + i]? := fun i => by
        rw [WideShapes.add_plain]
        simp [World.cell?, hheap]
      refine ⟨off, cs, e', fz, rfl, hheap, ?_, fun i u hi => ?_⟩
      · obtain ⟨u, hu⟩ := cellAt (cap * k - 1) (by omega)
        rw [hcell] at hu
        have := (Array.getElem?_eq_some_iff.1 hu).1
        omega
      · have hi0 := (List.getElem?_eq_some_iff.1 hi).1
        rw [flatE_length hk] at hi0
        have hq : i / k < l.length := (Nat.div_lt_iff_lt_mul hk0).2 hi0
        have hm : i % k < k := Nat.mod_lt _ hk0
        have hdm := Nat.div_add_mod i k
        have hi' : i / k * k + i % k = i := by rw [Nat.mul_comm]; exact hdm
        obtain ⟨h5, h6⟩ := cells_at (hcells _ hq)
        have h7 := h6 _ hm
        rw [WideShapes.add_plain, WideShapes.add_plain, Nat.add_assoc, hi'] at h7
        have h8 : w.cell? ⟨b, off + i, none⟩ = cs[off + i]? := by simp [World.cell?, hheap]
        rw [← h8, h7]
        obtain ⟨g1, g2⟩ := cut_get (flatE_cut hk l hq)
        have g3 : (ev l[i / k])[i % k]? = some u := by
          have hlt : i % k < (ev l[i / k]).length := by rw [hk]; exact hm
          have := (g2 (i % k) (ev l[i / k])[i % k] (List.getElem?_eq_getElem hlt)).2
          rw [hi'] at this
          rw [List.getElem?_eq_getElem hlt, ← this, hi]
        exact g3

end
end Go.Ev
