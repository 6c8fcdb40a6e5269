/- Contract: Compare. -/
import Derived.Test.YtcfohcpcepeolaaGreatDoorVG
set_option linter.unusedSimpArgs false
set_option linter.unusedVariables false
/- Contract: add to the digits of a number; plus. -/
namespace Go.Proofs.YtcfohcpcepeolaaGreatDoor
open Go.Ev
end Go.Proofs.YtcfohcpcepeolaaGreatDoor
/- Contract: add to the digits of a number; plus. -/
namespace Go.Proofs.YtcfohcpcepeolaaGreatDoor
open Go.Ev
end Go.Proofs.YtcfohcpcepeolaaGreatDoor
/- Contracts: plus, units. -/
namespace Go.Proofs.YtcfohcpcepeolaaGreatDoor
open Go.Ev
end Go.Proofs.YtcfohcpcepeolaaGreatDoor
/- Contract: Sum. -/
namespace Go.Proofs.YtcfohcpcepeolaaGreatDoor
open Go.Ev
/-- the cells of a place-value number -/
def encP (x : Value × Int) : List Value := [x.1, .int .i64 x.2]
/-- a list of place-value numbers -/
def PIn (H : AHeap) (v : Value) (L : List (List Int × Int)) : Prop := ∃ W : List (Value × Int), W.length = L.length ∧ SlIn encP 2 41 H v W ∧ ∀ i (h1 : i < W.length) (h2 : i < L.length), W[i].2 = L[i].2 ∧ IIn H W[i].1 L[i].1 ∧ okC W[i].1 = true
theorem PIn.gr {H H' : AHeap} {v : Value} {L : List (List Int × Int)} (p : PIn H v L) (g : Gr H H') : PIn H' v L := by
  obtain ⟨W, h1, h2, h3⟩ := p
  exact ⟨W, h1, SlIn.gr h2 g, fun i a b => ⟨(h3 i a b).1, SlIn.gr (h3 i a b).2.1 g, (h3 i a b).2.2⟩⟩
theorem check_valid {l : List Int} (h : checkE l = 0) : valid l ∧ l.length ≤ 16 := by
  rw [checkE] at h
  by_cases h16 : 16 < l.length
  · rw [if_pos h16] at h; cases h
  · rw [if_neg h16] at h
    by_cases hN : hasN l
    · rw [if_pos hN] at h; cases h
    · rw [if_neg hN] at h
      by_cases hf : l ≠ [] ∧ (l[0]? = some 0 ∨ l[l.length - 1]? = some 0)
      · rw [if_pos hf] at h; cases h
      · refine ⟨⟨fun x hx => ?_, fun h0 => hf ⟨fun e => (by rw [e] at h0; cases h0), .inl h0⟩, fun hn h0 => hf ⟨hn, .inr h0⟩⟩, by omega⟩
        apply Classical.byContradiction
        intro hh
        exact hN ⟨x, hx, by omega⟩
/-- a valid place-value number -/
def okP (l : List Int) (s : Int) : Prop := valid l ∧ l.length ≤ 16 ∧ -64 ≤ s ∧ s ≤ 64 ∧ (l = [] → s = 0)
theorem placeE_ok {l : List Int} {s : Int} : placeE l s = 0 ↔ okP l s := by
  constructor
  · intro h
    rw [placeE] at h
    by_cases hc : checkE l ≠ 0
    · rw [if_pos hc] at h; exact absurd h hc
    · rw [if_neg hc] at h
      have hc' := check_valid (Classical.not_not.1 hc)
      by_cases hs : ¬ (-64 ≤ s ∧ s ≤ 64)
      · rw [if_pos hs] at h; cases h
      · rw [if_neg hs] at h
        have hs' := Classical.not_not.1 hs
        by_cases hz : l = [] ∧ s ≠ 0
        · rw [if_pos hz] at h; cases h
        · exact ⟨hc'.1, hc'.2, hs'.1, hs'.2, fun e => Classical.byContradiction fun h0 => hz ⟨e, h0⟩⟩
  · rintro ⟨h1, h2, h3, h4, h5⟩
    rw [placeE, if_neg (fun h => h (valid_check h1 h2)), if_neg (fun h => h ⟨h3, h4⟩), if_neg (fun h => h.2 (h5 h.1))]
theorem placeR.gr {X : Nat} {s : Int} {r : Value} {H H' : AHeap} (p : placeR X s r H) (g : Gr H H') : placeR X s r H' := by
  rcases p with p | ⟨p0, l, e, v, h1, h2, h3, h4, ⟨h5, h6, h7⟩ | h5⟩
  · exact .inl p
  · exact .inr ⟨p0, l, e, v, h1, h2, h3, h4, .inl ⟨h5, h6, SlIn.gr h7 g⟩⟩
  · exact .inr ⟨p0, l, e, v, h1, h2, h3, h4, .inr h5⟩
theorem IIn.setQ {H : AHeap} {v : Value} {q e' : Nat} {l : List Int} {ob : AObj} {C : List Value} {rw' : Bool} (h : IIn H v l) (hq : H.get q = some (.cells C e' rw')) (he : e' ≠ 3) : IIn (H.set q ob) v l := by
  obtain ⟨a', c', e, hc, hv⟩ := h
  refine ⟨a', c', e, hc, fun hne => ?_⟩
  obtain ⟨b, off, all, rw', h1, h2, h3, h4⟩ := hv hne
  refine ⟨b, off, all, rw', h1, by rw [next_set]; exact h2, ?_, h4⟩
  have hbq : q ≠ b := fun e => by
    subst e
    rw [hq] at h3
    cases h3
    exact he rfl
  rw [get_set_ne hbq]
  exact h3
theorem placeR.set {X : Nat} {s : Int} {r : Value} {H : AHeap} {q e' : Nat} {ob : AObj} {C : List Value} {rw' : Bool} (p : placeR X s r H) (hq : H.get q = some (.cells C e' rw')) (he : e' ≠ 3) : placeR X s r (H.set q ob) := by
  rcases p with p | ⟨p0, l, e, v, h1, h2, h3, h4, ⟨h5, h6, h7⟩ | h5⟩
  · exact .inl p
  · exact .inr ⟨p0, l, e, v, h1, h2, h3, h4, .inl ⟨h5, h6, IIn.setQ h7 hq he⟩⟩
  · exact .inr ⟨p0, l, e, v, h1, h2, h3, h4, .inr h5⟩
end Go.Proofs.YtcfohcpcepeolaaGreatDoor
namespace Go.Proofs.YtcfohcpcepeolaaGreatDoor
open Go.Ev
end Go.Proofs.YtcfohcpcepeolaaGreatDoor
