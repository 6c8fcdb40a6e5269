/-
  MetroRatioProducts returns true for any list of ratios and any ratio: Product and Floor are the reference's, and the list is not changed. Conditions: none beyond the form's own.
  How: an evaluator of calls without draws (Ev1 to Ev27, W1 to W11) is right in every world and on every schedule; the functions have contracts in it (G1 to G6, Q1 to Q7, R1 to R5, Z1 to Z4).
-/
import Derived.Test.YtomamgmefpmnpaaW6
import Derived.Test.YtomamgmefpmnpaaW3
import Derived.WalkKit
import Derived.ProofKit
import Derived.OpenShut
import Derived.ShutString
import Derived.ChangeSame
import Derived.Test.YtomamgmefpmnpaaRows
import Derived.Test.YtomamgmefpmnpaaG0
import Derived.Test.YtomamgmefpmnpaaProdC
import Derived.Test.YtomamgmefpmnpaaW11
import Derived.SizedLaws
set_option linter.unusedSimpArgs false
set_option linter.unusedVariables false
/- Arguments that are slices: also the empty ones have an address. -/
namespace Go.Ev
open Go.ChangeShapes Go.WideShapes Go.ChangeAt Go.RowKit
theorem Sim.addDead {P : Program} {base : Nat} {ρ : Ren} {h : AHeap} {w : World} (s : Sim P base ρ h w) {b : Nat} (hlt : b < base) (off esz total : Nat) : Sim P base (ρ.put h.next ⟨b, off, esz, total⟩) (h.new .dead) w := by
  have hnone := s.unmet
  have hle := Ren.le_put (p := ⟨b, off, esz, total⟩) hnone
  refine ⟨⟨?_, ?_, ?_, ?_⟩, ?_, s.room⟩
  · intro k p hk
    by_cases e1 : h.next = k
    · exact ⟨.dead, by rw [get_new, if_pos e1], trivial⟩
    · rw [Ren.put_ne _ _ e1] at hk
      obtain ⟨o, h1, h2⟩ := s.rel.obj k p hk
      exact ⟨o, by rw [get_new, if_neg e1]; exact h1, h2.mono hle⟩
  · intro b₁ b₂ p₁ p₂ o₁ o₂ h1 h2 g1 g2 l1 l2 hp
    by_cases e1 : h.next = b₁
    · rw [get_new, if_pos e1] at g1; cases g1; cases l1
    · by_cases e2 : h.next = b₂
      · rw [get_new, if_pos e2] at g2; cases g2; cases l2
      · rw [get_new, if_neg e1] at g1
        rw [get_new, if_neg e2] at g2
        rw [Ren.put_ne _ _ e1] at h1
        rw [Ren.put_ne _ _ e2] at h2
        exact s.rel.inj _ _ _ _ _ _ h1 h2 g1 g2 l1 l2 hp
  · intro k p hk
    by_cases e1 : h.next = k
    · subst e1
      rw [Ren.put_self] at hk; cases hk
      exact Nat.lt_of_lt_of_le hlt s.room
    · rw [Ren.put_ne _ _ e1] at hk; exact s.rel.size k p hk
  · intro k p o hk ho hrw
    by_cases e1 : h.next = k
    · rw [get_new, if_pos e1] at ho; cases ho; cases hrw
    · rw [Ren.put_ne _ _ e1] at hk
      rw [get_new, if_neg e1] at ho
      exact s.rel.lo k p o hk ho hrw
  · intro k hk
    have hk' : Nat.succ h.next ≤ k := hk
    rw [get_new, if_neg (by omega)]
    exact s.void k (by omega)

section
variable {P : Program} {w : World} {H : Type} {enc : TypeId × Value → H}
/-- an argument that is a slice of plain elements -/
theorem take_slice {base : Nat} {ρ : Ren} {h : AHeap} {α : Type} {ev : α → List Value} {k fuel : Nat} {t e : TypeId} {u : Value} {x : DataW H × List MemPlace} {Good : α → Prop} (s : Sim P base ρ h w) (hk : ∀ x, (ev x).length = k) (hk0 : 0 < k) (hu : P.underlying t = some (.slice e)) (hce : P.cellsOf e = k) (hpl : ∀ x, ∀ v ∈ ev x, plainV v = true)
    (hf : DataW.trod enc P w 0 (fun _ => true) true fuel t [u] = some x) (hok : ∀ a n c, u = .slice (some a) n c → a.spot = none ∧ a.block < base)
    (sound : ∀ n cs y, DataW.trod enc P w 0 (fun _ => true) true n e cs = some y → ∃ x, cs = ev x ∧ Good x) :
    ∃ ρ' v h' l, Sim P base ρ' h' w ∧ Ren.le ρ ρ' ∧ VRel ρ' v u ∧ SlIn ev k e h' v l ∧ okC v = true ∧ Gr h h' ∧ (∀ z ∈ l, Good z) ∧ l.length ≤ maxLen ∧ (l = [] ∨ ∃ elems rest, x.1 = .slice elems rest ∧ l.length ≤ elems.length + rest.length) := by
  rcases open_flat hk hk0 hu hce hf sound with h1 | ⟨a, cap, l, h1, hlc, hcm, hg, ⟨elems, rest, h2, h3⟩, hrow, hm⟩
  · cases h1
    exact ⟨ρ, .slice none 0 0, h, [], s, Ren.le_refl ρ, .snil, ⟨none, 0, rfl, Nat.zero_le _, fun h => absurd rfl h⟩, rfl, Gr.refl h, fun _ h => (nomatch h), Nat.zero_le _, .inl rfl⟩
  · cases h1
    obtain ⟨hsp, hlt⟩ := hok a l.length cap rfl
    have hML : maxLen < EX := by unfold maxLen EX; omega
    by_cases hne : l = []
    · subst hne
      refine ⟨_, .slice (some ⟨h.next, 0, none⟩) 0 0, _, [], s.addDead hlt a.off 0 a.off, Ren.le_put s.unmet, ?_, ⟨_, 0, rfl, Nat.zero_le _, fun h => absurd rfl h⟩, rfl, ⟨Nat.le_succ _, fun b hb => by rw [get_new, if_neg (by omega)]⟩, fun _ h => (nomatch h), Nat.zero_le _, .inl rfl⟩
      refine .sl (p := ⟨a.block, a.off, 0, a.off⟩) ⟨rfl, hsp, _, Ren.put_self _ _ _, rfl, by simp⟩ ⟨Nat.zero_le _, fun hq => by cases hq⟩ (Nat.zero_le _) (Ren.put_self _ _ _) (.inr ?_)
      show 0 + a.off + cap * 0 ≤ a.off
      omega
    · obtain ⟨off, cs, e', fz, ha, hheap, hfit, hcell⟩ := hm hne
      have hlen : (flatE ev l).length = l.length * k := flatE_length hk l
      have hlk : l.length * k ≤ cap * k := Nat.mul_le_mul_right k hlc
      have hcr : ∀ ρ', CRel ρ' (flatE ev l) cs off := fun ρ' => by
        refine ⟨by rw [hlen]; omega, fun i u hi => ⟨u, hcell i u hi, plain_rel ?_⟩⟩
        obtain ⟨x, hx, hux⟩ := List.mem_flatMap.1 (List.mem_of_getElem? hi)
        exact hpl x u hux
      have s' := s.addRo hheap hlt e off (flatE ev l) (hcr _)
      have hcs := capLo_small (c := l.length) (by omega)
      refine ⟨_, .slice (some ⟨h.next, 0, none⟩) l.length l.length, _, l, s', Ren.le_put s.unmet, ?_, ⟨_, _, rfl, by rw [hcs.1]; exact Nat.le_refl _, fun _ => ⟨h.next, 0, flatE ev l, false, rfl, Nat.lt_succ_self _, by rw [get_new, if_pos rfl], fun i hi => by rw [Nat.zero_add]; exact flatE_cut hk l hi⟩⟩, rfl, ⟨Nat.le_succ _, fun b hb => by rw [get_new, if_neg (by omega)]⟩, hg, Nat.le_trans hlc hcm, .inr ⟨elems, rest, h2, by omega⟩⟩
      refine .sl (p := ⟨a.block, off, P.cellsOf e, cs.size⟩) ⟨rfl, by rw [ha], _, Ren.put_self _ _ _, rfl, by rw [ha]; simp⟩ ⟨by rw [hcs.1]; exact hlc, fun hq => by rw [hcs.2] at hq; cases hq⟩ (by rw [hcs.1]; exact Nat.le_refl _) (Ren.put_self _ _ _) (.inr ?_)
      show 0 + off + cap * P.cellsOf e ≤ cs.size
      rw [hce]; omega
theorem slice_has {r : Go.Reach} {b0 : Nat} {t e : TypeId} {u : Value} (hu : P.underlying t = some (.slice e)) (h : Cell.okWide P w r b0 t u) : ∀ a n c, u = .slice (some a) n c → a.spot = none ∧ a.block < w.heap.size := by
  rintro a n c rfl
  simp only [Cell.okWide, Cell.ok, hu] at h
  obtain ⟨_, _, _, hs, row, cells, hsh, _⟩ := h
  refine ⟨hs, ?_⟩
  unfold World.shape? at hsh
  split at hsh
  · rename_i hh
    exact (Array.getElem?_eq_some_iff.1 hh).1
  · cases hsh
end
end Go.Ev
/- Arguments of two integers in one value: an array, or a struct. -/
namespace Go.Proofs.Ytomamgmefpmnpaa
open Go.ChangeShapes Go.WideShapes Go.ChangeAt Go.RowKit
variable {P : Program} {w : World} {H : Type} {enc : TypeId × Value → H} {base : Nat} {sp : Nat → Bool} {held : Bool}

theorem okWide_arr {t e : TypeId} {n : Nat} {r : Reach} {b0 : Nat} {v : Value} (ht : P.underlying t = some (.array n e)) (h : Value.okWide P w r b0 t v) : ∃ cs, v = .agg cs ∧ cs.size = P.cellsOf t := by
  simp only [Value.okWide, ht] at h
  obtain ⟨cs, h1, h2, _⟩ := h
  exact ⟨cs, h1, h2⟩
theorem okWide_str {t : TypeId} {fs : Array Field} {r : Reach} {b0 : Nat} {v : Value} (ht : P.underlying t = some (.struct fs)) (h : Value.okWide P w r b0 t v) : ∃ cs, v = .agg cs ∧ cs.size = P.cellsOf t := by
  simp only [Value.okWide, ht] at h
  obtain ⟨cs, h1, h2, _⟩ := h
  exact ⟨cs, h1, h2⟩

theorem open_arr2 {r : Reach} {b0 : Nat} {t e : TypeId} {k : IntKind} {v : Value} {d : DataW H} {ps : List MemPlace} (ht : P.underlying t = some (.array 2 e)) (he : P.underlying e = some (.int k)) (hc : P.cellsOf e = 1) (hct : P.cellsOf t = 2)
    (hval : Value.okWide P w r b0 t v) (hd : DataW.Trod enc P w base sp held t v d ps) :
    ∃ a b, v = .agg #[.int k a, .int k b] ∧ d = .agg [.lit (.int k a), .lit (.int k b)] ∧ ps = [] ∧ (Lit.int k a).wf = true ∧ (Lit.int k b).wf = true := by
  obtain ⟨cs, rfl, hs⟩ := okWide_arr ht hval
  obtain ⟨fuel, hf⟩ := hd
  obtain ⟨xs, m, _, hx, hl, hlen, hg⟩ := DataW.trod_array ht hf
  obtain ⟨cs⟩ := cs
  match cs, hs, hct with
  | cs, hs, hct =>
    rw [hct] at hs
    match cs, hs with
    | [x, y], _ =>
      match xs, hlen with
      | [u, z], _ =>
        have h0 := hg 0 (by omega)
        have h1 := hg 1 (by omega)
        simp [Value.cells, hc] at h0 h1
        obtain ⟨a, ha, hxa, hwa⟩ := DataW.trod_int he h0
        obtain ⟨b, hb, hxb, hwb⟩ := DataW.trod_int he h1
        simp at ha hb
        subst ha; subst hb; subst hxa; subst hxb
        simp at hx
        exact ⟨a, b, rfl, hx.1, hx.2, hwa, hwb⟩

theorem shut_arr2 {t e : TypeId} {k : IntKind} {a b : Int} (ht : P.underlying t = some (.array 2 e)) (he : P.underlying e = some (.int k)) (hc : P.cellsOf e = 1) (hct : P.cellsOf t = 2) (ha : (Lit.int k a).wf = true) (hb : (Lit.int k b).wf = true) :
    DataW.Trod enc P w base sp held t (.agg #[.int k a, .int k b]) (.agg [.lit (.int k a), .lit (.int k b)]) [] := by
  refine ⟨2, ?_⟩
  unfold DataW.trod
  rw [ht]
  simp [Value.cells, hct, hc, List.range, List.range.loop, DataW.trod, he, ha, hb]
end Go.Proofs.Ytomamgmefpmnpaa
/- Arguments that are structs of two integers. -/
namespace Go.Proofs.Ytomamgmefpmnpaa
open Go.ChangeShapes Go.WideShapes Go.ChangeAt Go.RowKit
variable {P : Program} {w : World} {H : Type} {enc : TypeId × Value → H} {base : Nat} {sp : Nat → Bool} {held : Bool}
theorem open_str2 {r : Reach} {b0 : Nat} {t : TypeId} {f0 f1 : Field} {k : IntKind} {v : Value} {d : DataW H} {ps : List MemPlace} (ht : P.underlying t = some (.struct #[f0, f1])) (he : P.underlying f0.type = some (.int k)) (he1 : f1.type = f0.type) (o0 : f0.offset = 0) (o1 : f1.offset = 1) (hc : P.cellsOf f0.type = 1) (hct : P.cellsOf t = 2)
    (hval : Value.okWide P w r b0 t v) (hd : DataW.Trod enc P w base sp held t v d ps) :
    ∃ a b, v = .agg #[.int k a, .int k b] ∧ d = .agg [.lit (.int k a), .lit (.int k b)] ∧ ps = [] ∧ (Lit.int k a).wf = true ∧ (Lit.int k b).wf = true := by
  obtain ⟨cs, rfl, hs⟩ := okWide_str ht hval
  obtain ⟨fuel, hf⟩ := hd
  obtain ⟨u, z, m, hx, hl, h0, h1⟩ := trod_struct2 ht hf
  obtain ⟨cs⟩ := cs
  rw [hct] at hs
  match cs, hs with
  | [x, y], _ =>
    rw [he1] at h1
    simp [Value.cells, hc, o0, o1] at h0 h1
    obtain ⟨a, ha, hxa, hwa⟩ := DataW.trod_int he h0
    obtain ⟨b, hb, hxb, hwb⟩ := DataW.trod_int he h1
    simp at ha hb
    subst ha; subst hb; subst hxa; subst hxb
    simp at hx
    exact ⟨a, b, rfl, hx.1, hx.2, hwa, hwb⟩

theorem shut_str2 {t : TypeId} {f0 f1 : Field} {k : IntKind} {a b : Int} (ht : P.underlying t = some (.struct #[f0, f1])) (he : P.underlying f0.type = some (.int k)) (he1 : f1.type = f0.type) (o0 : f0.offset = 0) (o1 : f1.offset = 1) (hc : P.cellsOf f0.type = 1) (hct : P.cellsOf t = 2) (ha : (Lit.int k a).wf = true) (hb : (Lit.int k b).wf = true) :
    DataW.Trod enc P w base sp held t (.agg #[.int k a, .int k b]) (.agg [.lit (.int k a), .lit (.int k b)]) [] := by
  refine ⟨2, ?_⟩
  unfold DataW.trod
  rw [ht]
  simp [Value.cells, hct, hc, DataW.trod, he, he1, o0, o1, ha, hb]
end Go.Proofs.Ytomamgmefpmnpaa
/- From the evaluator's calls to the model's. -/
namespace Go.Proofs.Ytomamgmefpmnpaa
open Go.Ev
theorem true_calls {f : FuncId} {fn : Func} {body : Code} {args args' : List Value} (hf : Try.prog.funcs[f]? = some fn) (hb : fn.body = some body) (hno : isIn pr.K f = false) (ha : VRels (fun _ => none) args args') (c : Wc pr (.func f) args (emptyHeap pr.P) fun v _ => v = .bool true) (w : World) :
    Calls Try.prog f args'.toArray w fun e w' => e = .returned (.bool true) ∧ RowKit.Below w.heap.size w w' := by
  refine (Wc.calls (p := pr) orders noNum known21 hf hb hno ha (sim_empty pr.P w) c).mono ?_
  rintro e w' ⟨ρ', v, v', h', rfl, hv, hw, rfl⟩
  exact ⟨by rw [hv.bool_inv], hw.ext.below⟩
end Go.Proofs.Ytomamgmefpmnpaa
/- Arguments that are slices of pairs of integers (structs or arrays). -/
namespace Go.Proofs.Ytomamgmefpmnpaa
open Go.ChangeShapes Go.WideShapes Go.ChangeAt Go.RowKit
open Go.Ev

theorem pair_calls {f : FuncId} {fn : Func} {body : Code} {args args' : List Value} {w : World} {ρ : Ren} {h : AHeap} (hf : Try.prog.funcs[f]? = some fn) (hb : fn.body = some body) (hno : isIn pr.K f = false) (st : Sim pr.P w.heap.size ρ h w) (ha : VRels ρ args args') (c : Wc pr (.func f) args h fun v _ => v = .bool true) :
    Calls Try.prog f args'.toArray w fun e w' => e = .returned (.bool true) ∧ RowKit.Below w.heap.size w w' := by
  refine (Wc.calls (p := pr) orders noNum known21 hf hb hno ha st c).mono ?_
  rintro e w' ⟨ρ', v, v', h', rfl, hv, hw, rfl⟩
  exact ⟨by rw [hv.bool_inv], hw.ext.below⟩

variable {P : Program} {w : World} {H : Type} {enc : TypeId × Value → H}
def inI (x : Int) : Prop := -9223372036854775808 ≤ x ∧ x ≤ 9223372036854775807
theorem inI_of {a : Int} (h : (Lit.int .i64 a).wf = true) : inI a := by
  simp [Lit.wf] at h
  have hm : IntKind.i64.min = -9223372036854775808 := by kernel_rfl
  rw [hm] at h
  exact h
theorem ratio_sound {n : Nat} {t : TypeId} {f0 f1 : Field} {cs : List Value} {y : DataW H × List MemPlace} (ht : P.underlying t = some (.struct #[f0, f1])) (u0 : P.underlying f0.type = some (.int .i64)) (u1 : P.underlying f1.type = some (.int .i64)) (o0 : f0.offset = 0) (o1 : f1.offset = 1) (c0 : P.cellsOf f0.type = 1) (c1 : P.cellsOf f1.type = 1) (ct : P.cellsOf t = 2)
    (h : DataW.trod enc P w 0 (fun _ => true) true n t cs = some y) : ∃ x : Int × Int, cs = [.int .i64 x.1, .int .i64 x.2] ∧ (inI x.1 ∧ inI x.2) := by
  obtain ⟨y0, y1, m, _, hl, h0, h1⟩ := trod_struct2 ht h
  rw [ct] at hl
  rw [o0, c0] at h0
  rw [o1, c1] at h1
  match cs, hl with
  | [a, b], _ =>
    simp only [List.drop_zero, List.take_succ_cons, List.take_zero, List.drop_succ_cons] at h0 h1
    obtain ⟨i, hi, _, hw⟩ := DataW.trod_int u0 h0
    obtain ⟨j, hj, _, hx⟩ := DataW.trod_int u1 h1
    simp only [List.cons.injEq, and_true] at hi hj
    subst hi; subst hj
    exact ⟨(i, j), rfl, inI_of hw, inI_of hx⟩
theorem array_sound {n : Nat} {t e : TypeId} {cs : List Value} {y : DataW H × List MemPlace} (ht : P.underlying t = some (.array 2 e)) (he : P.underlying e = some (.int .i64)) (hc : P.cellsOf e = 1) (hct : P.cellsOf t = 2)
    (h : DataW.trod enc P w 0 (fun _ => true) true n t cs = some y) : ∃ x : Int × Int, cs = [.int .i64 x.1, .int .i64 x.2] ∧ (inI x.1 ∧ inI x.2) := by
  obtain ⟨xs, m, _, hx, hl, hlen, hg⟩ := DataW.trod_array ht h
  rw [hct] at hl
  match cs, hl with
  | [a, b], _ =>
   match xs, hlen with
   | [u, z], _ =>
    have h0 := hg 0 (by omega)
    have h1 := hg 1 (by omega)
    simp [hc] at h0 h1
    obtain ⟨i, hi, _, hw⟩ := DataW.trod_int he h0
    obtain ⟨j, hj, _, hx⟩ := DataW.trod_int he h1
    simp at hi hj
    subst hi; subst hj
    exact ⟨(i, j), rfl, inI_of hw, inI_of hx⟩
end Go.Proofs.Ytomamgmefpmnpaa
/- The walk of the law MetroRatioProducts. -/
namespace Go.Proofs.Ytomamgmefpmnpaa
open Go.Ev
def encR (p : Int × Int) : List Value := [.int .i64 p.1, .int .i64 p.2]
theorem encR_len (p : Int × Int) : (encR p).length = 2 := rfl
theorem encR_flat (p : Int × Int) : allFlat (encR p) = true := rfl
theorem rats_of {h : AHeap} {v : Value} {l : List (Int × Int)} (hv : SlIn encR 2 23 h v l) : RatsIn h v l := by
  obtain ⟨a, c, rfl, hc, hv⟩ := hv
  refine ⟨a, c, rfl, fun hne => ?_⟩
  obtain ⟨b, off, all, rw', h1, h2, h3, h4⟩ := hv hne
  exact ⟨b, off, all, 23, rw', h1, h2, h3, h4⟩
theorem apR (h : AHeap) (b : Option Addr) (n c : Nat) (x : Value) : appendOp Try.prog h 35 35 (.slice b n c) x = appendS h 23 2 16 b n c x := by kernel_rfl
theorem bs35_0 : buildSliceA Try.prog 35 0 [] = some (.cells [] 23 true, fun b => .slice (some ⟨b, 0, none⟩) 0 EX) := by kernel_rfl
theorem flat_all {α : Type} {enc : α → List Value} (hf : ∀ x, allFlat (enc x) = true) : ∀ m : List α, allFlat (flatE enc m) = true := by
  intro m
  induction m with
  | nil => rfl
  | cons x m ih =>
    rw [flatE_cons]
    have := hf x
    revert this
    generalize enc x = cs
    intro this
    induction cs with
    | nil => exact ih
    | cons v cs ihc =>
      rw [allFlat_cons] at this
      rw [List.cons_append, allFlat_cons]
      rw [Bool.and_eq_true] at this ⊢
      exact ⟨this.1, ihc this.2⟩
/-- a slice is appended to an own one without room -/
theorem append_own0 {α : Type} {enc : α → List Value} {k e bytes b0 : Nat} {h : AHeap} {m : List α} {v : Value} (hk : ∀ x, (enc x).length = k) (hf : ∀ x, allFlat (enc x) = true) (hm0 : m ≠ []) (hb : m.length * bytes ≤ 281474976710656) (hmm : m.length ≤ 1000000000000000) (hg : h.get b0 = some (.cells [] e true)) (hv : SlIn enc k e h v m) :
    appendS h e k bytes (some ⟨b0, 0, none⟩) 0 EX v = some (.slice (some ⟨h.next, 0, none⟩) m.length m.length, h.new (.cells (flatE enc m) e true)) := by
  obtain ⟨a, c, rfl, hc, hv⟩ := hv
  obtain ⟨b', off, all, rw', rfl, h2, h3, h4⟩ := hv hm0
  have hcut : cut all off (m.length * k) = some (flatE enc m) := cut_many hk h4
  have hpos := List.length_pos_iff.2 hm0
  rw [appendS_eq (m := m.length) (new := flatE enc m) rfl (src_at h3 hcut) (flat_all hf m)]
  unfold appendIn
  rw [show capLo EX = 0 from capLo_ex 0, ble_no (show 0 < 0 + m.length by omega)]
  have : nilRoom (some ⟨b0, 0, none⟩) EX bytes (0 + m.length) = true := by
    unfold nilRoom
    dsimp only
    rw [Nat.beq_refl, ble_yes (by rw [Nat.zero_add]; exact hb), ble_yes (by omega)]; rfl
  rw [this, Bool.or_true, Nat.zero_add]
  show appendNew h e k ⟨b0, 0, none⟩ 0 EX (flatE enc m) m.length = _
  unfold appendNew
  dsimp only
  rw [hg]
  dsimp only
  rw [Nat.zero_mul]
  show cond (isEx EX) _ _ = _
  rw [show isEx EX = true from isEx_ex 0]
  rfl
theorem append_own_nothing {α : Type} {enc : α → List Value} {k e bytes b0 : Nat} {h : AHeap} {v : Value} (hv : SlIn enc k e h v []) : appendS h e k bytes (some ⟨b0, 0, none⟩) 0 EX v = some (.slice (some ⟨b0, 0, none⟩) 0 EX, h) := by
  obtain ⟨a, c, rfl, hc, hv⟩ := hv
  rw [List.length_nil, appendS_eq (m := 0) (new := []) rfl (src_zero _ _ _ _) rfl]
  unfold appendIn
  rw [show capLo EX = 0 from capLo_ex 0]
  rfl
theorem own_copy {h : AHeap} {b0 : Nat} {l : List (Int × Int)} {v : Value} (hb0 : b0 < h.next) (hg : h.get b0 = some (.cells [] 23 true)) (hn : l.length * 16 ≤ 281474976710656) (hv : SlIn encR 2 23 h v l) :
    ∃ ao co H, appendS h 23 2 16 (some ⟨b0, 0, none⟩) 0 EX v = some (.slice ao l.length co, H) ∧ SlIn encR 2 23 H (.slice ao l.length co) l ∧ Gr h H := by
  by_cases hne : l = []
  · subst hne
    exact ⟨_, _, h, append_own_nothing hv, ⟨_, _, rfl, Nat.zero_le _, fun h => absurd rfl h⟩, Gr.refl h⟩
  · have hx := capLo_small (c := l.length) (show l.length < EX by unfold EX; omega)
    refine ⟨_, _, _, append_own0 encR_len encR_flat hne hn (by omega) hg hv, ⟨_, _, rfl, by rw [hx.1]; exact Nat.le_refl _, fun _ => ⟨h.next, 0, _, true, rfl, by rw [next_new]; omega, by rw [get_new, if_pos rfl], fun i hi => by rw [Nat.zero_add]; exact flatE_cut encR_len l hi⟩⟩, by (repeat (first | exact Gr.refl _ | assumption | (refine Gr.trans ?_ (by assumption)) | refine Gr.set ?_ (by first | exact Nat.le_refl _ | omega | (simp only [next_new, next_set]; omega)) _ | refine Gr.new ?_ _))⟩
set_option maxRecDepth 100000 in
set_option maxHeartbeats 16000000 in
theorem products_w (l : List (Int × Int)) (hl : ∀ p ∈ l, -9223372036854775808 ≤ p.1 ∧ p.1 ≤ 9223372036854775807) (nl : l.length * 16 ≤ 281474976710656) (a b : Int) (h1 : -9223372036854775808 ≤ a) (h2 : a ≤ 9223372036854775807) (v : Value) (h : AHeap) (hv : SlIn encR 2 23 h v l) :
    Wc pr (.func 5) [v, .agg #[.int .i64 a, .int .i64 b]] h fun r h' => r = .bool true := by
  have rin := rats_of hv
  have wr := fun H q => rprodx_w l hl (by omega) v H q
  have wf := fun H => floor_w a b h1 h2 H
  have wg := fun H => rfloor_w a b h1 h2 H
  have hv0 := hv
  obtain ⟨av, cv, rfl, hcv, hv⟩ := hv
  refine wc_func Try.func5 rfl rfl rfl rfl ?_
  repeat' (first
    | ((with_reducible refine optP_id ?_); conv => { arg 1; simp (disch := first | assumption | omega) only [push_cast, ↓reduceIte, reduceIte, Nat.reduceEqDiff, Nat.reduceAdd, Nat.reduceSub, Nat.reduceMul, Nat.reduceBEq, Int.reduceNeg, bs35_0] }; refine optP_some ?_)
    | ((with_reducible refine condP_id ?_); conv => { arg 1; simp (disch := first | assumption | omega) only [push_cast, ↓reduceIte, reduceIte, Nat.reduceEqDiff, Nat.reduceAdd, Nat.reduceSub, Nat.reduceMul, Nat.reduceBEq, Int.reduceNeg, bs35_0] }; first | refine condP_yes (by first | assumption | exact fun hn => hn (by assumption) | omega | decide) ?_ | refine condP_non (by assumption) ?_ | refine condP_no (by first | assumption | omega | decide) ?_ | refine condP_decn (fun hc => ?_) (fun hc => ?_) | refine condP_dec (fun hc => ?_) (fun hc => ?_) | refine condP_true (by first | assumption | rfl) ?_ | refine condP_false (by first | assumption | rfl) ?_ | refine condP_bool (fun hc => ?_) (fun hc => ?_))
    | ((with_reducible refine condO_id ?_); conv => { arg 1; simp (disch := first | assumption | omega) only [push_cast, ↓reduceIte, reduceIte, Nat.reduceEqDiff, Nat.reduceAdd, Nat.reduceSub, Nat.reduceMul, Nat.reduceBEq, Int.reduceNeg, bs35_0] }; refine condO_some ?_)
    | ((with_reducible refine callP_id ?_); conv => { arg 2; simp (disch := first | assumption | omega) only [push_cast, ↓reduceIte, reduceIte, Nat.reduceEqDiff, Nat.reduceAdd, Nat.reduceSub, Nat.reduceMul, Nat.reduceBEq, Int.reduceNeg, bs35_0] }; conv => { arg 3; simp (disch := first | assumption | omega) only [push_cast, ↓reduceIte, reduceIte, Nat.reduceEqDiff, Nat.reduceAdd, Nat.reduceSub, Nat.reduceMul, Nat.reduceBEq, Int.reduceNeg, bs35_0] }; first | refine callP_plain ?_ | refine callP_yield ?_ | (refine callP_func ?_; conv => { arg 3; simp only [push_cast] }))
    | ((with_reducible refine resP_id ?_); conv => { arg 1; simp (disch := first | assumption | omega) only [push_cast, ↓reduceIte, reduceIte, Nat.reduceEqDiff, Nat.reduceAdd, Nat.reduceSub, Nat.reduceMul, Nat.reduceBEq, Int.reduceNeg, bs35_0] }; first | refine resP_one ?_ | refine resP_two ?_ | refine resP_three ?_ | refine resP_zero ?_)
    | refine wk_seq ?_ | refine wk_block ?_ | refine wk_scope ?_ | refine wk_inBlock ?_ | refine wk_inScope ?_ | refine wk_skip ?_ | refine wk_label ?_ | refine wk_region ?_ | refine wk_draw (by kernel_rfl) (by decide +kernel) ?_ | refine wo_nil ?_ | refine wk_exit ?_ | refine exitK_code ?_ | refine exitK_hit ?_ | refine exitK_miss rfl ?_ | refine exitK_inLoop ?_ | refine exitK_inScope ?_ | refine wk_cond ?_ | refine wk_ret ?_ | refine wk_nil ?_ | refine wo_dst rfl (opR_call ?_) | refine wo_nodst (opR_call ?_) | refine wo_dst rfl (opR_pick ?_) | refine wo_guard rfl rfl ?_ | refine wo_guardn rfl ?_ | refine wo_dst rfl (opR_pure ?_) | refine wo_nodst (opR_pure ?_)
    | refine give_ret ?_ | refine give_end ?_)
  conv => { arg 1; simp (disch := first | assumption | omega) only [push_cast, ↓reduceIte, reduceIte, Nat.reduceEqDiff, Nat.reduceAdd, Nat.reduceSub, Nat.reduceMul, Nat.reduceBEq, Int.reduceNeg, apR] }
  obtain ⟨ao, co, H0, e0, own, g0⟩ := own_copy (h := (h.new (.cells [.int .i64 a, .int .i64 b] 23 true)).new (.cells [] 23 true)) (b0 := h.next + 1) (by simp only [next_new]; omega) (by simp (disch := first | assumption | omega) only [push_cast, ↓reduceIte, reduceIte, Nat.reduceEqDiff, Nat.reduceAdd, Nat.reduceSub, Nat.reduceMul, Nat.reduceBEq, Int.reduceNeg]) nl (SlIn.gr hv0 (by (repeat (first | exact Gr.refl _ | assumption | (refine Gr.trans ?_ (by assumption)) | refine Gr.set ?_ (by first | exact Nat.le_refl _ | omega | (simp only [next_new, next_set]; omega)) _ | refine Gr.new ?_ _))))
  rw [e0]
  refine optP_some ?_
  clear e0
  have n0 := g0.1; have k0 := g0.2; try simp only [next_new, next_set] at n0 k0
  have hz0 : H0.get h.next = some (.cells [.int .i64 a, .int .i64 b] 23 true) := by rw [k0 _ (by omega)]; simp (disch := first | assumption | omega) only [push_cast, ↓reduceIte, reduceIte, Nat.reduceEqDiff, Nat.reduceAdd, Nat.reduceSub, Nat.reduceMul, Nat.reduceBEq, Int.reduceNeg]
  repeat' (first
    | ((with_reducible refine optP_id ?_); conv => { arg 1; simp (disch := first | assumption | omega) only [push_cast, ↓reduceIte, reduceIte, Nat.reduceEqDiff, Nat.reduceAdd, Nat.reduceSub, Nat.reduceMul, Nat.reduceBEq, Int.reduceNeg, k0] }; refine optP_some ?_)
    | ((with_reducible refine condP_id ?_); conv => { arg 1; simp (disch := first | assumption | omega) only [push_cast, ↓reduceIte, reduceIte, Nat.reduceEqDiff, Nat.reduceAdd, Nat.reduceSub, Nat.reduceMul, Nat.reduceBEq, Int.reduceNeg, k0] }; first | refine condP_yes (by first | assumption | exact fun hn => hn (by assumption) | omega | decide) ?_ | refine condP_non (by assumption) ?_ | refine condP_no (by first | assumption | omega | decide) ?_ | refine condP_decn (fun hc => ?_) (fun hc => ?_) | refine condP_dec (fun hc => ?_) (fun hc => ?_) | refine condP_true (by first | assumption | rfl) ?_ | refine condP_false (by first | assumption | rfl) ?_ | refine condP_bool (fun hc => ?_) (fun hc => ?_))
    | ((with_reducible refine condO_id ?_); conv => { arg 1; simp (disch := first | assumption | omega) only [push_cast, ↓reduceIte, reduceIte, Nat.reduceEqDiff, Nat.reduceAdd, Nat.reduceSub, Nat.reduceMul, Nat.reduceBEq, Int.reduceNeg, k0] }; refine condO_some ?_)
    | ((with_reducible refine callP_id ?_); conv => { arg 2; simp (disch := first | assumption | omega) only [push_cast, ↓reduceIte, reduceIte, Nat.reduceEqDiff, Nat.reduceAdd, Nat.reduceSub, Nat.reduceMul, Nat.reduceBEq, Int.reduceNeg, k0] }; conv => { arg 3; simp (disch := first | assumption | omega) only [push_cast, ↓reduceIte, reduceIte, Nat.reduceEqDiff, Nat.reduceAdd, Nat.reduceSub, Nat.reduceMul, Nat.reduceBEq, Int.reduceNeg, k0] }; first | refine callP_plain ?_ | refine callP_yield ?_ | (refine callP_func ?_; conv => { arg 3; simp only [push_cast] }))
    | ((with_reducible refine resP_id ?_); conv => { arg 1; simp (disch := first | assumption | omega) only [push_cast, ↓reduceIte, reduceIte, Nat.reduceEqDiff, Nat.reduceAdd, Nat.reduceSub, Nat.reduceMul, Nat.reduceBEq, Int.reduceNeg, k0] }; first | refine resP_one ?_ | refine resP_two ?_ | refine resP_three ?_ | refine resP_zero ?_)
    | refine wk_seq ?_ | refine wk_block ?_ | refine wk_scope ?_ | refine wk_inBlock ?_ | refine wk_inScope ?_ | refine wk_skip ?_ | refine wk_label ?_ | refine wk_region ?_ | refine wk_draw (by kernel_rfl) (by decide +kernel) ?_ | refine wo_nil ?_ | refine wk_exit ?_ | refine exitK_code ?_ | refine exitK_hit ?_ | refine exitK_miss rfl ?_ | refine exitK_inLoop ?_ | refine exitK_inScope ?_ | refine wk_cond ?_ | refine wk_ret ?_ | refine wk_nil ?_ | refine wo_dst rfl (opR_call ?_) | refine wo_nodst (opR_call ?_) | refine wo_dst rfl (opR_pick ?_) | refine wo_guard rfl rfl ?_ | refine wo_guardn rfl ?_ | refine wo_dst rfl (opR_pure ?_) | refine wo_nodst (opR_pure ?_)
    | refine give_ret ?_ | refine give_end ?_)
  refine (prod_w l hl (by omega) _ _ (rats_of own)).mono ?_
  rintro _ H1 ⟨rfl, g1⟩; have n1 := g1.1; have k1 := g1.2; try simp only [next_new, next_set] at n1 k1
  generalize hX : prodX l = X at *
  obtain ⟨x, y, z⟩ := X
  repeat' (first
    | ((with_reducible refine optP_id ?_); conv => { arg 1; simp (disch := first | assumption | omega) only [push_cast, ↓reduceIte, reduceIte, Nat.reduceEqDiff, Nat.reduceAdd, Nat.reduceSub, Nat.reduceMul, Nat.reduceBEq, Int.reduceNeg, k1, ratV] }; refine optP_some ?_)
    | ((with_reducible refine condP_id ?_); conv => { arg 1; simp (disch := first | assumption | omega) only [push_cast, ↓reduceIte, reduceIte, Nat.reduceEqDiff, Nat.reduceAdd, Nat.reduceSub, Nat.reduceMul, Nat.reduceBEq, Int.reduceNeg, k1, ratV] }; first | refine condP_yes (by first | assumption | exact fun hn => hn (by assumption) | omega | decide) ?_ | refine condP_non (by assumption) ?_ | refine condP_no (by first | assumption | omega | decide) ?_ | refine condP_decn (fun hc => ?_) (fun hc => ?_) | refine condP_dec (fun hc => ?_) (fun hc => ?_) | refine condP_true (by first | assumption | rfl) ?_ | refine condP_false (by first | assumption | rfl) ?_ | refine condP_bool (fun hc => ?_) (fun hc => ?_))
    | ((with_reducible refine condO_id ?_); conv => { arg 1; simp (disch := first | assumption | omega) only [push_cast, ↓reduceIte, reduceIte, Nat.reduceEqDiff, Nat.reduceAdd, Nat.reduceSub, Nat.reduceMul, Nat.reduceBEq, Int.reduceNeg, k1, ratV] }; refine condO_some ?_)
    | ((with_reducible refine callP_id ?_); conv => { arg 2; simp (disch := first | assumption | omega) only [push_cast, ↓reduceIte, reduceIte, Nat.reduceEqDiff, Nat.reduceAdd, Nat.reduceSub, Nat.reduceMul, Nat.reduceBEq, Int.reduceNeg, k1, ratV] }; conv => { arg 3; simp (disch := first | assumption | omega) only [push_cast, ↓reduceIte, reduceIte, Nat.reduceEqDiff, Nat.reduceAdd, Nat.reduceSub, Nat.reduceMul, Nat.reduceBEq, Int.reduceNeg, k1, ratV] }; first | refine callP_plain ?_ | refine callP_yield ?_ | (refine callP_func ?_; conv => { arg 3; simp only [push_cast] }))
    | ((with_reducible refine resP_id ?_); conv => { arg 1; simp (disch := first | assumption | omega) only [push_cast, ↓reduceIte, reduceIte, Nat.reduceEqDiff, Nat.reduceAdd, Nat.reduceSub, Nat.reduceMul, Nat.reduceBEq, Int.reduceNeg, k1, ratV] }; first | refine resP_one ?_ | refine resP_two ?_ | refine resP_three ?_ | refine resP_zero ?_)
    | refine wk_seq ?_ | refine wk_block ?_ | refine wk_scope ?_ | refine wk_inBlock ?_ | refine wk_inScope ?_ | refine wk_skip ?_ | refine wk_label ?_ | refine wk_region ?_ | refine wk_draw (by kernel_rfl) (by decide +kernel) ?_ | refine wo_nil ?_ | refine wk_exit ?_ | refine exitK_code ?_ | refine exitK_hit ?_ | refine exitK_miss rfl ?_ | refine exitK_inLoop ?_ | refine exitK_inScope ?_ | refine wk_cond ?_ | refine wk_ret ?_ | refine wk_nil ?_ | refine wo_dst rfl (opR_call ?_) | refine wo_nodst (opR_call ?_) | refine wo_dst rfl (opR_pick ?_) | refine wo_guard rfl rfl ?_ | refine wo_guardn rfl ?_ | refine wo_dst rfl (opR_pure ?_) | refine wo_nodst (opR_pure ?_)
    | refine give_ret ?_ | refine give_end ?_)
  refine (wr _ (ratsIn_gr rin (by (repeat (first | exact Gr.refl _ | assumption | (refine Gr.trans ?_ (by assumption)) | refine Gr.set ?_ (by first | exact Nat.le_refl _ | omega | (simp only [next_new, next_set]; omega)) _ | refine Gr.new ?_ _))))).mono ?_
  rintro _ H2 ⟨rfl, g2⟩; have n2 := g2.1; have k2 := g2.2; try simp only [next_new, next_set] at n2 k2
  repeat' (first
    | ((with_reducible refine optP_id ?_); conv => { arg 1; simp (disch := first | assumption | omega) only [push_cast, ↓reduceIte, reduceIte, Nat.reduceEqDiff, Nat.reduceAdd, Nat.reduceSub, Nat.reduceMul, Nat.reduceBEq, Int.reduceNeg, k1, k2, ratV] }; refine optP_some ?_)
    | ((with_reducible refine condP_id ?_); conv => { arg 1; simp (disch := first | assumption | omega) only [push_cast, ↓reduceIte, reduceIte, Nat.reduceEqDiff, Nat.reduceAdd, Nat.reduceSub, Nat.reduceMul, Nat.reduceBEq, Int.reduceNeg, k1, k2, ratV] }; first | refine condP_yes (by first | assumption | exact fun hn => hn (by assumption) | omega | decide) ?_ | refine condP_non (by assumption) ?_ | refine condP_no (by first | assumption | omega | decide) ?_ | refine condP_decn (fun hc => ?_) (fun hc => ?_) | refine condP_dec (fun hc => ?_) (fun hc => ?_) | refine condP_true (by first | assumption | rfl) ?_ | refine condP_false (by first | assumption | rfl) ?_ | refine condP_bool (fun hc => ?_) (fun hc => ?_))
    | ((with_reducible refine condO_id ?_); conv => { arg 1; simp (disch := first | assumption | omega) only [push_cast, ↓reduceIte, reduceIte, Nat.reduceEqDiff, Nat.reduceAdd, Nat.reduceSub, Nat.reduceMul, Nat.reduceBEq, Int.reduceNeg, k1, k2, ratV] }; refine condO_some ?_)
    | ((with_reducible refine callP_id ?_); conv => { arg 2; simp (disch := first | assumption | omega) only [push_cast, ↓reduceIte, reduceIte, Nat.reduceEqDiff, Nat.reduceAdd, Nat.reduceSub, Nat.reduceMul, Nat.reduceBEq, Int.reduceNeg, k1, k2, ratV] }; conv => { arg 3; simp (disch := first | assumption | omega) only [push_cast, ↓reduceIte, reduceIte, Nat.reduceEqDiff, Nat.reduceAdd, Nat.reduceSub, Nat.reduceMul, Nat.reduceBEq, Int.reduceNeg, k1, k2, ratV] }; first | refine callP_plain ?_ | refine callP_yield ?_ | (refine callP_func ?_; conv => { arg 3; simp only [push_cast] }))
    | ((with_reducible refine resP_id ?_); conv => { arg 1; simp (disch := first | assumption | omega) only [push_cast, ↓reduceIte, reduceIte, Nat.reduceEqDiff, Nat.reduceAdd, Nat.reduceSub, Nat.reduceMul, Nat.reduceBEq, Int.reduceNeg, k1, k2, ratV] }; first | refine resP_one ?_ | refine resP_two ?_ | refine resP_three ?_ | refine resP_zero ?_)
    | refine wk_seq ?_ | refine wk_block ?_ | refine wk_scope ?_ | refine wk_inBlock ?_ | refine wk_inScope ?_ | refine wk_skip ?_ | refine wk_label ?_ | refine wk_region ?_ | refine wk_draw (by kernel_rfl) (by decide +kernel) ?_ | refine wo_nil ?_ | refine wk_exit ?_ | refine exitK_code ?_ | refine exitK_hit ?_ | refine exitK_miss rfl ?_ | refine exitK_inLoop ?_ | refine exitK_inScope ?_ | refine wk_cond ?_ | refine wk_ret ?_ | refine wk_nil ?_ | refine wo_dst rfl (opR_call ?_) | refine wo_nodst (opR_call ?_) | refine wo_dst rfl (opR_pick ?_) | refine wo_guard rfl rfl ?_ | refine wo_guardn rfl ?_ | refine wo_dst rfl (opR_pure ?_) | refine wo_nodst (opR_pure ?_)
    | refine give_ret ?_ | refine give_end ?_)
  have hz2 : H2.get h.next = some (.cells [.int .i64 a, .int .i64 b] 23 true) := by rw [k2 _ (by omega)]; simp (disch := first | assumption | omega) only [push_cast, ↓reduceIte, reduceIte, Nat.reduceEqDiff, Nat.reduceAdd, Nat.reduceSub, Nat.reduceMul, Nat.reduceBEq, Int.reduceNeg]; rw [k1 _ (by omega)]; exact hz0
  have own2 : SlIn encR 2 23 H2 (.slice ao l.length co) l := SlIn.gr own (by (repeat (first | exact Gr.refl _ | assumption | (refine Gr.trans ?_ (by assumption)) | refine Gr.set ?_ (by first | exact Nat.le_refl _ | omega | (simp only [next_new, next_set]; omega)) _ | refine Gr.new ?_ _)))
  have hv2 : SlIn encR 2 23 H2 (.slice av l.length cv) l := SlIn.gr hv0 (by (repeat (first | exact Gr.refl _ | assumption | (refine Gr.trans ?_ (by assumption)) | refine Gr.set ?_ (by first | exact Nat.le_refl _ | omega | (simp only [next_new, next_set]; omega)) _ | refine Gr.new ?_ _)))
  refine wk_loop (fun n E h' => ∃ k : Nat, n = l.length - k ∧ k ≤ l.length ∧ Gr H2 h' ∧ E.look 11 top = .int .i64 (k : Int) ∧ E.look 10 top = .bool true ∧ E.look 5 top = .slice ao l.length co ∧ E.look 0 top = .slice av l.length cv ∧ E.look 3 top = .pointer (some ⟨h.next, 0, none⟩)) l.length
    ⟨0, by omega, by omega, by (repeat (first | exact Gr.refl _ | assumption | (refine Gr.trans ?_ (by assumption)) | refine Gr.set ?_ (by first | exact Nat.le_refl _ | omega | (simp only [next_new, next_set]; omega)) _ | refine Gr.new ?_ _)), (by simp (disch := first | assumption | omega) only [push_cast, ↓reduceIte, reduceIte, Nat.reduceEqDiff, Nat.reduceAdd, Nat.reduceSub, Nat.reduceMul, Nat.reduceBEq, Int.reduceNeg, Int.natCast_zero]), by simp (disch := first | assumption | omega) only [push_cast, ↓reduceIte, reduceIte, Nat.reduceEqDiff, Nat.reduceAdd, Nat.reduceSub, Nat.reduceMul, Nat.reduceBEq, Int.reduceNeg, decide_true], by simp (disch := first | assumption | omega) only [push_cast, ↓reduceIte, reduceIte, Nat.reduceEqDiff, Nat.reduceAdd, Nat.reduceSub, Nat.reduceMul, Nat.reduceBEq, Int.reduceNeg], by simp (disch := first | assumption | omega) only [push_cast, ↓reduceIte, reduceIte, Nat.reduceEqDiff, Nat.reduceAdd, Nat.reduceSub, Nat.reduceMul, Nat.reduceBEq, Int.reduceNeg], by simp (disch := first | assumption | omega) only [push_cast, ↓reduceIte, reduceIte, Nat.reduceEqDiff, Nat.reduceAdd, Nat.reduceSub, Nat.reduceMul, Nat.reduceBEq, Int.reduceNeg]⟩ ?_
  rintro n E h' ⟨k, rfl, hk, gr, e11, e10, e5, e0, e3⟩ next
  have gn := gr.1
  by_cases hlt : k < l.length
  · have hne : l ≠ [] := by intro hh; rw [hh] at hlt; exact absurd hlt (Nat.not_lt_zero k)
    obtain ⟨_, _, q1, hco, own3⟩ := SlIn.gr own2 gr
    cases q1
    obtain ⟨b1, off1, all1, rw1, rfl, hb1, hg1, ht1⟩ := own3 hne
    obtain ⟨_, _, q2, _, hv3⟩ := SlIn.gr hv2 gr
    cases q2
    obtain ⟨b2, off2, all2, rw2, rfl, hb2, hg2, ht2⟩ := hv3 hne
    have c1 := ht1 k hlt
    have c2 := ht2 k hlt
    generalize l[k] = xy at c1 c2
    obtain ⟨x1, y1⟩ := xy
    unfold encR at c1 c2
    dsimp only at c1 c2
    repeat' (first
    | ((with_reducible refine optP_id ?_); conv => { arg 1; simp (disch := first | assumption | omega) only [push_cast, ↓reduceIte, reduceIte, Nat.reduceEqDiff, Nat.reduceAdd, Nat.reduceSub, Nat.reduceMul, Nat.reduceBEq, Int.reduceNeg, e11, e10, e5, e0, e3, hg1, hg2, c1, c2] }; refine optP_some ?_)
    | ((with_reducible refine condP_id ?_); conv => { arg 1; simp (disch := first | assumption | omega) only [push_cast, ↓reduceIte, reduceIte, Nat.reduceEqDiff, Nat.reduceAdd, Nat.reduceSub, Nat.reduceMul, Nat.reduceBEq, Int.reduceNeg, e11, e10, e5, e0, e3, hg1, hg2, c1, c2] }; first | refine condP_yes (by first | assumption | exact fun hn => hn (by assumption) | omega | decide) ?_ | refine condP_non (by assumption) ?_ | refine condP_no (by first | assumption | omega | decide) ?_ | refine condP_decn (fun hc => ?_) (fun hc => ?_) | refine condP_dec (fun hc => ?_) (fun hc => ?_) | refine condP_true (by first | assumption | rfl) ?_ | refine condP_false (by first | assumption | rfl) ?_ | refine condP_bool (fun hc => ?_) (fun hc => ?_))
    | ((with_reducible refine condO_id ?_); conv => { arg 1; simp (disch := first | assumption | omega) only [push_cast, ↓reduceIte, reduceIte, Nat.reduceEqDiff, Nat.reduceAdd, Nat.reduceSub, Nat.reduceMul, Nat.reduceBEq, Int.reduceNeg, e11, e10, e5, e0, e3, hg1, hg2, c1, c2] }; refine condO_some ?_)
    | ((with_reducible refine callP_id ?_); conv => { arg 2; simp (disch := first | assumption | omega) only [push_cast, ↓reduceIte, reduceIte, Nat.reduceEqDiff, Nat.reduceAdd, Nat.reduceSub, Nat.reduceMul, Nat.reduceBEq, Int.reduceNeg, e11, e10, e5, e0, e3, hg1, hg2, c1, c2] }; conv => { arg 3; simp (disch := first | assumption | omega) only [push_cast, ↓reduceIte, reduceIte, Nat.reduceEqDiff, Nat.reduceAdd, Nat.reduceSub, Nat.reduceMul, Nat.reduceBEq, Int.reduceNeg, e11, e10, e5, e0, e3, hg1, hg2, c1, c2] }; first | refine callP_plain ?_ | refine callP_yield ?_ | (refine callP_func ?_; conv => { arg 3; simp only [push_cast] }))
    | ((with_reducible refine resP_id ?_); conv => { arg 1; simp (disch := first | assumption | omega) only [push_cast, ↓reduceIte, reduceIte, Nat.reduceEqDiff, Nat.reduceAdd, Nat.reduceSub, Nat.reduceMul, Nat.reduceBEq, Int.reduceNeg, e11, e10, e5, e0, e3, hg1, hg2, c1, c2] }; first | refine resP_one ?_ | refine resP_two ?_ | refine resP_three ?_ | refine resP_zero ?_)
    | refine wk_seq ?_ | refine wk_block ?_ | refine wk_scope ?_ | refine wk_inBlock ?_ | refine wk_inScope ?_ | refine wk_skip ?_ | refine wk_label ?_ | refine wk_region ?_ | refine wk_draw (by kernel_rfl) (by decide +kernel) ?_ | refine wo_nil ?_ | refine wk_exit ?_ | refine exitK_code ?_ | refine exitK_hit ?_ | refine exitK_miss rfl ?_ | refine exitK_inLoop ?_ | refine exitK_inScope ?_ | refine wk_cond ?_ | refine wk_ret ?_ | refine wk_nil ?_ | refine wo_dst rfl (opR_call ?_) | refine wo_nodst (opR_call ?_) | refine wo_dst rfl (opR_pick ?_) | refine wo_guard rfl rfl ?_ | refine wo_guardn rfl ?_ | refine wo_dst rfl (opR_pure ?_) | refine wo_nodst (opR_pure ?_)
    | refine give_ret ?_ | refine give_end ?_)
    exact next (l.length - (k + 1)) _ _ (by omega) ⟨k + 1, rfl, by omega, by (repeat (first | exact Gr.refl _ | assumption | (refine Gr.trans ?_ (by assumption)) | refine Gr.set ?_ (by first | exact Nat.le_refl _ | omega | (simp only [next_new, next_set]; omega)) _ | refine Gr.new ?_ _)), (by simp (disch := first | assumption | omega) only [push_cast, ↓reduceIte, reduceIte, Nat.reduceEqDiff, Nat.reduceAdd, Nat.reduceSub, Nat.reduceMul, Nat.reduceBEq, Int.reduceNeg, Int.natCast_add, Int.natCast_one]), by simp (disch := first | assumption | omega) only [push_cast, ↓reduceIte, reduceIte, Nat.reduceEqDiff, Nat.reduceAdd, Nat.reduceSub, Nat.reduceMul, Nat.reduceBEq, Int.reduceNeg, and_self, decide_true], by simp (disch := first | assumption | omega) only [push_cast, ↓reduceIte, reduceIte, Nat.reduceEqDiff, Nat.reduceAdd, Nat.reduceSub, Nat.reduceMul, Nat.reduceBEq, Int.reduceNeg, e5], by simp (disch := first | assumption | omega) only [push_cast, ↓reduceIte, reduceIte, Nat.reduceEqDiff, Nat.reduceAdd, Nat.reduceSub, Nat.reduceMul, Nat.reduceBEq, Int.reduceNeg, e0], by simp (disch := first | assumption | omega) only [push_cast, ↓reduceIte, reduceIte, Nat.reduceEqDiff, Nat.reduceAdd, Nat.reduceSub, Nat.reduceMul, Nat.reduceBEq, Int.reduceNeg, e3]⟩
  · have hz3 : h'.get h.next = some (.cells [.int .i64 a, .int .i64 b] 23 true) := by rw [gr.2 _ (by omega)]; exact hz2
    have n9 : h.next < h'.next := by omega
    generalize hF : floorV a b = F at *
    obtain ⟨fq, fr1, fr2, fe, rfl⟩ : ∃ fq fr1 fr2 fe, F = .tuple #[.int .i64 fq, .agg #[.int .i64 fr1, .int .i64 fr2], .int .i64 fe] := by
      rw [← hF]; unfold floorV; split <;> exact ⟨_, _, _, _, rfl⟩
    repeat' (first
    | ((with_reducible refine optP_id ?_); conv => { arg 1; simp (disch := first | assumption | omega) only [push_cast, ↓reduceIte, reduceIte, Nat.reduceEqDiff, Nat.reduceAdd, Nat.reduceSub, Nat.reduceMul, Nat.reduceBEq, Int.reduceNeg, e11, e10, e5, e0, e3, hz3] }; refine optP_some ?_)
    | ((with_reducible refine condP_id ?_); conv => { arg 1; simp (disch := first | assumption | omega) only [push_cast, ↓reduceIte, reduceIte, Nat.reduceEqDiff, Nat.reduceAdd, Nat.reduceSub, Nat.reduceMul, Nat.reduceBEq, Int.reduceNeg, e11, e10, e5, e0, e3, hz3] }; first | refine condP_yes (by first | assumption | exact fun hn => hn (by assumption) | omega | decide) ?_ | refine condP_non (by assumption) ?_ | refine condP_no (by first | assumption | omega | decide) ?_ | refine condP_decn (fun hc => ?_) (fun hc => ?_) | refine condP_dec (fun hc => ?_) (fun hc => ?_) | refine condP_true (by first | assumption | rfl) ?_ | refine condP_false (by first | assumption | rfl) ?_ | refine condP_bool (fun hc => ?_) (fun hc => ?_))
    | ((with_reducible refine condO_id ?_); conv => { arg 1; simp (disch := first | assumption | omega) only [push_cast, ↓reduceIte, reduceIte, Nat.reduceEqDiff, Nat.reduceAdd, Nat.reduceSub, Nat.reduceMul, Nat.reduceBEq, Int.reduceNeg, e11, e10, e5, e0, e3, hz3] }; refine condO_some ?_)
    | ((with_reducible refine callP_id ?_); conv => { arg 2; simp (disch := first | assumption | omega) only [push_cast, ↓reduceIte, reduceIte, Nat.reduceEqDiff, Nat.reduceAdd, Nat.reduceSub, Nat.reduceMul, Nat.reduceBEq, Int.reduceNeg, e11, e10, e5, e0, e3, hz3] }; conv => { arg 3; simp (disch := first | assumption | omega) only [push_cast, ↓reduceIte, reduceIte, Nat.reduceEqDiff, Nat.reduceAdd, Nat.reduceSub, Nat.reduceMul, Nat.reduceBEq, Int.reduceNeg, e11, e10, e5, e0, e3, hz3] }; first | refine callP_plain ?_ | refine callP_yield ?_ | (refine callP_func ?_; conv => { arg 3; simp only [push_cast] }))
    | ((with_reducible refine resP_id ?_); conv => { arg 1; simp (disch := first | assumption | omega) only [push_cast, ↓reduceIte, reduceIte, Nat.reduceEqDiff, Nat.reduceAdd, Nat.reduceSub, Nat.reduceMul, Nat.reduceBEq, Int.reduceNeg, e11, e10, e5, e0, e3, hz3] }; first | refine resP_one ?_ | refine resP_two ?_ | refine resP_three ?_ | refine resP_zero ?_)
    | refine wk_seq ?_ | refine wk_block ?_ | refine wk_scope ?_ | refine wk_inBlock ?_ | refine wk_inScope ?_ | refine wk_skip ?_ | refine wk_label ?_ | refine wk_region ?_ | refine wk_draw (by kernel_rfl) (by decide +kernel) ?_ | refine wo_nil ?_ | refine wk_exit ?_ | refine exitK_code ?_ | refine exitK_hit ?_ | refine exitK_miss rfl ?_ | refine exitK_inLoop ?_ | refine exitK_inScope ?_ | refine wk_cond ?_ | refine wk_ret ?_ | refine wk_nil ?_ | refine wo_dst rfl (opR_call ?_) | refine wo_nodst (opR_call ?_) | refine wo_dst rfl (opR_pick ?_) | refine wo_guard rfl rfl ?_ | refine wo_guardn rfl ?_ | refine wo_dst rfl (opR_pure ?_) | refine wo_nodst (opR_pure ?_)
    | refine give_ret ?_ | refine give_end ?_)
    refine (wf _).mono ?_
    rintro _ H3 ⟨rfl, g3⟩; have n3 := g3.1; have k3 := g3.2; try simp only [next_new, next_set] at n3 k3
    have hz4 : H3.get h.next = some (.cells [.int .i64 a, .int .i64 b] 23 true) := by rw [k3 _ (by omega)]; exact hz3
    repeat' (first
    | ((with_reducible refine optP_id ?_); conv => { arg 1; simp (disch := first | assumption | omega) only [push_cast, ↓reduceIte, reduceIte, Nat.reduceEqDiff, Nat.reduceAdd, Nat.reduceSub, Nat.reduceMul, Nat.reduceBEq, Int.reduceNeg, e11, e10, e5, e0, e3, hz4] }; refine optP_some ?_)
    | ((with_reducible refine condP_id ?_); conv => { arg 1; simp (disch := first | assumption | omega) only [push_cast, ↓reduceIte, reduceIte, Nat.reduceEqDiff, Nat.reduceAdd, Nat.reduceSub, Nat.reduceMul, Nat.reduceBEq, Int.reduceNeg, e11, e10, e5, e0, e3, hz4] }; first | refine condP_yes (by first | assumption | exact fun hn => hn (by assumption) | omega | decide) ?_ | refine condP_non (by assumption) ?_ | refine condP_no (by first | assumption | omega | decide) ?_ | refine condP_decn (fun hc => ?_) (fun hc => ?_) | refine condP_dec (fun hc => ?_) (fun hc => ?_) | refine condP_true (by first | assumption | rfl) ?_ | refine condP_false (by first | assumption | rfl) ?_ | refine condP_bool (fun hc => ?_) (fun hc => ?_))
    | ((with_reducible refine condO_id ?_); conv => { arg 1; simp (disch := first | assumption | omega) only [push_cast, ↓reduceIte, reduceIte, Nat.reduceEqDiff, Nat.reduceAdd, Nat.reduceSub, Nat.reduceMul, Nat.reduceBEq, Int.reduceNeg, e11, e10, e5, e0, e3, hz4] }; refine condO_some ?_)
    | ((with_reducible refine callP_id ?_); conv => { arg 2; simp (disch := first | assumption | omega) only [push_cast, ↓reduceIte, reduceIte, Nat.reduceEqDiff, Nat.reduceAdd, Nat.reduceSub, Nat.reduceMul, Nat.reduceBEq, Int.reduceNeg, e11, e10, e5, e0, e3, hz4] }; conv => { arg 3; simp (disch := first | assumption | omega) only [push_cast, ↓reduceIte, reduceIte, Nat.reduceEqDiff, Nat.reduceAdd, Nat.reduceSub, Nat.reduceMul, Nat.reduceBEq, Int.reduceNeg, e11, e10, e5, e0, e3, hz4] }; first | refine callP_plain ?_ | refine callP_yield ?_ | (refine callP_func ?_; conv => { arg 3; simp only [push_cast] }))
    | ((with_reducible refine resP_id ?_); conv => { arg 1; simp (disch := first | assumption | omega) only [push_cast, ↓reduceIte, reduceIte, Nat.reduceEqDiff, Nat.reduceAdd, Nat.reduceSub, Nat.reduceMul, Nat.reduceBEq, Int.reduceNeg, e11, e10, e5, e0, e3, hz4] }; first | refine resP_one ?_ | refine resP_two ?_ | refine resP_three ?_ | refine resP_zero ?_)
    | refine wk_seq ?_ | refine wk_block ?_ | refine wk_scope ?_ | refine wk_inBlock ?_ | refine wk_inScope ?_ | refine wk_skip ?_ | refine wk_label ?_ | refine wk_region ?_ | refine wk_draw (by kernel_rfl) (by decide +kernel) ?_ | refine wo_nil ?_ | refine wk_exit ?_ | refine exitK_code ?_ | refine exitK_hit ?_ | refine exitK_miss rfl ?_ | refine exitK_inLoop ?_ | refine exitK_inScope ?_ | refine wk_cond ?_ | refine wk_ret ?_ | refine wk_nil ?_ | refine wo_dst rfl (opR_call ?_) | refine wo_nodst (opR_call ?_) | refine wo_dst rfl (opR_pick ?_) | refine wo_guard rfl rfl ?_ | refine wo_guardn rfl ?_ | refine wo_dst rfl (opR_pure ?_) | refine wo_nodst (opR_pure ?_)
    | refine give_ret ?_ | refine give_end ?_)
    refine (wg _).mono ?_
    rintro _ H4 ⟨rfl, g4⟩; have n4 := g4.1; have k4 := g4.2; try simp only [next_new, next_set] at n4 k4
    repeat' (first
    | ((with_reducible refine optP_id ?_); conv => { arg 1; simp (disch := first | assumption | omega) only [push_cast, ↓reduceIte, reduceIte, Nat.reduceEqDiff, Nat.reduceAdd, Nat.reduceSub, Nat.reduceMul, Nat.reduceBEq, Int.reduceNeg, e11, e10, e5, e0, e3, k4] }; refine optP_some ?_)
    | ((with_reducible refine condP_id ?_); conv => { arg 1; simp (disch := first | assumption | omega) only [push_cast, ↓reduceIte, reduceIte, Nat.reduceEqDiff, Nat.reduceAdd, Nat.reduceSub, Nat.reduceMul, Nat.reduceBEq, Int.reduceNeg, e11, e10, e5, e0, e3, k4] }; first | refine condP_yes (by first | assumption | exact fun hn => hn (by assumption) | omega | decide) ?_ | refine condP_non (by assumption) ?_ | refine condP_no (by first | assumption | omega | decide) ?_ | refine condP_decn (fun hc => ?_) (fun hc => ?_) | refine condP_dec (fun hc => ?_) (fun hc => ?_) | refine condP_true (by first | assumption | rfl) ?_ | refine condP_false (by first | assumption | rfl) ?_ | refine condP_bool (fun hc => ?_) (fun hc => ?_))
    | ((with_reducible refine condO_id ?_); conv => { arg 1; simp (disch := first | assumption | omega) only [push_cast, ↓reduceIte, reduceIte, Nat.reduceEqDiff, Nat.reduceAdd, Nat.reduceSub, Nat.reduceMul, Nat.reduceBEq, Int.reduceNeg, e11, e10, e5, e0, e3, k4] }; refine condO_some ?_)
    | ((with_reducible refine callP_id ?_); conv => { arg 2; simp (disch := first | assumption | omega) only [push_cast, ↓reduceIte, reduceIte, Nat.reduceEqDiff, Nat.reduceAdd, Nat.reduceSub, Nat.reduceMul, Nat.reduceBEq, Int.reduceNeg, e11, e10, e5, e0, e3, k4] }; conv => { arg 3; simp (disch := first | assumption | omega) only [push_cast, ↓reduceIte, reduceIte, Nat.reduceEqDiff, Nat.reduceAdd, Nat.reduceSub, Nat.reduceMul, Nat.reduceBEq, Int.reduceNeg, e11, e10, e5, e0, e3, k4] }; first | refine callP_plain ?_ | refine callP_yield ?_ | (refine callP_func ?_; conv => { arg 3; simp only [push_cast] }))
    | ((with_reducible refine resP_id ?_); conv => { arg 1; simp (disch := first | assumption | omega) only [push_cast, ↓reduceIte, reduceIte, Nat.reduceEqDiff, Nat.reduceAdd, Nat.reduceSub, Nat.reduceMul, Nat.reduceBEq, Int.reduceNeg, e11, e10, e5, e0, e3, k4] }; first | refine resP_one ?_ | refine resP_two ?_ | refine resP_three ?_ | refine resP_zero ?_)
    | refine wk_seq ?_ | refine wk_block ?_ | refine wk_scope ?_ | refine wk_inBlock ?_ | refine wk_inScope ?_ | refine wk_skip ?_ | refine wk_label ?_ | refine wk_region ?_ | refine wk_draw (by kernel_rfl) (by decide +kernel) ?_ | refine wo_nil ?_ | refine wk_exit ?_ | refine exitK_code ?_ | refine exitK_hit ?_ | refine exitK_miss rfl ?_ | refine exitK_inLoop ?_ | refine exitK_inScope ?_ | refine wk_cond ?_ | refine wk_ret ?_ | refine wk_nil ?_ | refine wo_dst rfl (opR_call ?_) | refine wo_nodst (opR_call ?_) | refine wo_dst rfl (opR_pick ?_) | refine wo_guard rfl rfl ?_ | refine wo_guardn rfl ?_ | refine wo_dst rfl (opR_pure ?_) | refine wo_nodst (opR_pure ?_)
    | (refine wc_known rfl ?_)
    | refine give_ret ?_ | refine give_end ?_)
    rfl
end Go.Proofs.Ytomamgmefpmnpaa
namespace Go.Proofs.Ytomamgmefpmnpaa.metroRatioProducts
open Go.ChangeShapes Go.WideShapes Go.ChangeAt Go.RowKit
open Go.Ev

theorem own : ownKnob Try.prog.godebug = none := by kernel_rfl
theorem laid : laidOutB Try.prog = true := by kernel_rfl

set_option maxRecDepth 100000 in
theorem lifted (os : Os) (started : os.Started) (H : Type) (enc : TypeId × Value → H) :
    ReturnsInHanded {} Try.checked os 5 .any (Rows.metroRatioProductsSpec.pre6 enc Try.prog Try.f5 Rows.metroRatioProductsRow.domain false) (Rows.metroRatioProductsSpec.post enc Try.prog Try.f5 false true false false) := by
  refine returnsInHanded_of_change_sized (C := Try.checked) own started (by kernel_rfl) Try.func5
    (ChangeSpec.witness6 (enc := enc) (C := Try.checked) false ⟨#[], #[.slice none 0 0, .agg #[.int .i64 0, .int .i64 0]], []⟩ 8 (by kernel_rfl) (by kernel_rfl) (by kernel_rfl) (by kernel_rfl)) ?_
  intro W base args ds gs before hval0 hW hcnd hsize _
  have hval : ∀ (j : Nat) t v, Try.f5.params[j]? = some t → args[j]? = some v → Value.okWide Try.prog W .any base t v := hval0
  have hW' := hW
  obtain ⟨p, q, hA0, hV, rfl, hfz, hnd⟩ := hW
  have hA : DataW.TrodAll enc Try.prog W 0 (fun _ => true) true Try.f5.params.toList args.toList ds p := hA0
  rw [Try.params5] at hA hval
  obtain ⟨v0, vs0, d0, ds0, p0, q0, hargs, rfl, rfl, h0, r0⟩ := trodAll_cons hA
  obtain ⟨v1, vs1, d1, ds1, p1, q1, rfl, rfl, rfl, h1, r1⟩ := trodAll_cons r0
  obtain ⟨rfl, rfl, rfl⟩ := trodAll_nil r1
  obtain rfl : args = #[v0, v1] := by cases args; simp_all
  obtain ⟨rfl, rfl⟩ := trodVars_none hV
  have hlt : ∀ x ∈ p0 ++ (p1 ++ []) ++ [], x.block < W.heap.size := fun x hx => by simpa using hW'.lt x hx
  have hval_0 := hval 0 35 v0 rfl rfl
  have hval_1 := hval 1 23 v1 rfl rfl
  have hhas : ∀ a n c, v0 = .slice (some a) n c → a.spot = none ∧ a.block < W.heap.size := by
    have hc := hval_0
    simp only [Value.okWide, Try.underlying35] at hc
    exact slice_has Try.underlying35 hc
  obtain ⟨ax, nx, cx, rfl⟩ := okWide_slice Try.underlying35 hval_0
  obtain ⟨fx, hfx⟩ := id h0
  have c23 : Try.prog.cellsOf 23 = 2 := by kernel_rfl
  have c3 : Try.prog.cellsOf 3 = 1 := by kernel_rfl
  obtain ⟨a, b, rfl, rfl, rfl, w0, w1⟩ := open_str2 (t := 23) Try.underlying23 Try.underlying3 rfl rfl rfl c3 c23 hval_1 h1
  obtain ⟨ρ1, u1, h1', l, st, _, hrel1, hin1, _, _, good, _, hb1⟩ := take_slice (e := 23) (ev := encR) (Good := fun x => inI x.1 ∧ inI x.2) (sim_empty Try.prog W) encR_len (by decide) Try.underlying35 c23 (fun x v hv => by unfold encR at hv; rcases List.mem_cons.1 hv with rfl | hv <;> first | rfl | (rw [List.mem_singleton.1 hv]; rfl)) hfx hhas
    (fun n cs y hy => ratio_sound Try.underlying23 Try.underlying3 Try.underlying3 rfl rfl c3 c3 c23 hy)
  have b23 : Try.checked.prog.bytesOf 23 = 16 := by kernel_rfl
  have hrb : reachBytes = 140737488351232 := rfl
  have hlen1 : l.length * 16 ≤ 281474976710656 := by
    rcases hb1 with h | ⟨elems, rest, he, hle⟩
    · rw [h]; decide
    · have he' : d0 = .slice elems rest := he
      subst he'
      have h2 := sized_slice (j := 0) (t := 35) (e := 23) hsize (by rw [Try.params5]; rfl) rfl Try.underlying35
      rw [b23] at h2
      omega
  have walk : Calls Try.prog 5 #[.slice ax nx cx, .agg #[.int .i64 a, .int .i64 b]] W fun e w' => e = .returned (.bool true) ∧ Below W.heap.size W w' :=
    pair_calls (args := [u1, .agg #[.int .i64 a, .int .i64 b]]) (args' := [.slice ax nx cx, .agg #[.int .i64 a, .int .i64 b]]) Try.func5 rfl rfl st (.cons hrel1 (.cons (.agg (.cons (.int _ _) (.cons (.int _ _) .nil))) .nil)) (products_w l (fun p hp => (good p hp).1) hlen1 a b (inI_of w0).1 (inI_of w0).2 u1 h1' hin1)
  clear hA0 hval0
  refine walk.mono fun e W' ⟨he, bel⟩ => ?_
  subst he
  exact ⟨_, rfl, _, _, _, [], _, [], hW', trodAll_mk1 (shut_bool Try.underlying4 _),
    (trodAll_cons_mk (Below.trod laid (by kernel_rfl) (of_decide_eq_true (by kernel_rfl)) h0 bel (fun x hx => hlt x (by simp [hx]))) (trodAll_cons_mk (shut_str2 Try.underlying23 Try.underlying3 rfl rfl rfl c3 c23 w0 w1) trodAll_mk0)), rfl, bel.frame _, fun h => by cases h⟩

theorem over : Rows.metroRatioProductsRow.holds Try.pinned (OpenSpec.ofChange Rows.metroRatioProductsSpec) :=
  OpenClaim.holds_of_wide 5 Try.f5 rfl rfl rfl rfl rfl rfl rfl ⟨rfl, rfl, rfl, rfl, rfl⟩ rfl rfl rfl rfl rfl (by kernel_rfl) Try.func5 (by kernel_rfl)
    (of_decide_eq_true (by kernel_rfl)) (by unfold Func.isWrapper; first | (rw [if_pos (by decide +kernel)]; kernel_rfl) | (rw [if_neg (by decide +kernel)]; exact ⟨rfl, rfl⟩))
    (fun os started H enc _ => lifted os started H enc)

/-- ████ THE STATEMENT ████ -/
theorem proved : Rows.MetroRatioProductsSaid :=
  over
#print axioms proved
end Go.Proofs.Ytomamgmefpmnpaa.metroRatioProducts
