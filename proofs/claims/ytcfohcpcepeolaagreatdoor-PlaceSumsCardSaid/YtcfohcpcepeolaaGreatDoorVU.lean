/-
  PlaceSums returns true for any list of place-value numbers, valid or not: CheckPlace, Sum and Compare return what the reference returns. Conditions: none beyond the form's own; the laid variables are read by nobody on this way.
  How: an evaluator of calls without draws (Ev1 to Ev27, X1 to X5, W1 to W12) is right in every world and on every schedule; the functions have contracts in it (V0 to V69); the closed example call is evaluated (P0 to P2).
-/
import Derived.Test.YtcfohcpcepeolaaGreatDoorW6
import Derived.Test.YtcfohcpcepeolaaGreatDoorW3
import Derived.Test.YtcfohcpcepeolaaGreatDoorVA
import Derived.WalkKit
import Derived.ProofKit
import Derived.OpenShut
import Derived.ShutString
import Derived.ChangeSame
import Derived.Test.YtcfohcpcepeolaaGreatDoorVJ
import Derived.Test.YtcfohcpcepeolaaGreatDoorVP
import Derived.Test.YtcfohcpcepeolaaGreatDoorTie
import Derived.Test.YtcfohcpcepeolaaGreatDoorCards
import Derived.Lay
import Derived.LaidMore
import Derived.LaidOnce
import Derived.SevenTiedAt
import Derived.SizedLaws
set_option linter.unusedSimpArgs false
set_option linter.unusedVariables false
/- Arguments that are slices: also the empty ones have an address. -/
namespace Go.Ev
open Go.ChangeShapes Go.WideShapes Go.ChangeAt Go.RowKit
section
variable {P : Program} {w : World} {H : Type} {enc : TypeId × Value → H}
end
end Go.Ev
/- From a walk to the model's calls, with arguments in memory. -/
namespace Go.Proofs.YtcfohcpcepeolaaGreatDoor
open Go.ChangeShapes Go.WideShapes Go.ChangeAt Go.RowKit
open Go.Ev
theorem ev_calls {f : FuncId} {fn : Func} {body : Code} {args args' : List Value} {w : World} {ρ : Ren} {h : AHeap} (hf : Tryz.prog.funcs[f]? = some fn) (hb : fn.body = some body) (hno : isIn pr.K f = false) (st : Sim pr.P w.heap.size ρ h w) (ha : VRels ρ args args') (c : Wc pr (.func f) args h fun v _ => v = .bool true) :
    Calls Tryz.prog f args'.toArray w fun e w' => e = .returned (.bool true) ∧ RowKit.Below w.heap.size w w' := by
  refine (Wc.calls (p := pr) orders noNum known18 hf hb hno ha st c).mono ?_
  rintro e w' ⟨ρ', v, v', h', rfl, hv, hw, rfl⟩
  exact ⟨by rw [hv.bool_inv], hw.ext.below⟩
end Go.Proofs.YtcfohcpcepeolaaGreatDoor
/- An argument that is a list of place-value numbers. -/
namespace Go.Proofs.YtcfohcpcepeolaaGreatDoor
open Go.ChangeShapes Go.WideShapes Go.ChangeAt Go.RowKit
open Go.Ev
variable {W : World} {H : Type} {enc : TypeId × Value → H}
/-- a slice of integers, wherever it lies -/
def GoodI (W : World) (enc : TypeId × Value → H) (u : Value) : Prop := ∃ m y, DataW.trod enc Tryz.prog W 0 (fun _ => true) true m 22 [u] = some y
theorem junk_in (h : AHeap) : IIn h (.slice (some ⟨0, 0, some 0⟩) 0 0) [] := ⟨_, 0, rfl, Nat.zero_le _, fun h => absurd rfl h⟩
theorem none_in (h : AHeap) : IIn h (.slice none 0 0) [] := ⟨none, 0, rfl, Nat.zero_le _, fun h => absurd rfl h⟩
set_option maxRecDepth 100000 in
theorem take_inner {ρ : Ren} {h : AHeap} {u : Value} (s : Sim Tryz.prog W.heap.size ρ h W) (hg : GoodI W enc u) :
    ∃ ρ' v h' l, Sim Tryz.prog W.heap.size ρ' h' W ∧ Ren.le ρ ρ' ∧ VRel ρ' v u ∧ IIn h' v l ∧ okC v = true ∧ Gr h h' ∧ l.length ≤ 9223372036854775807 := by
  obtain ⟨m, y, hf⟩ := hg
  have c3 : Tryz.prog.cellsOf 3 = 1 := by kernel_rfl
  have snd : ∀ n cs y, DataW.trod enc Tryz.prog W 0 (fun _ => true) true n 3 cs = some y → ∃ x : Int, cs = encI x ∧ True := fun n cs y hy => by
    have hlc : ∃ z, cs = [z] := by
      cases n with
      | zero => cases hy
      | succ n =>
        unfold DataW.trod at hy
        rw [Tryz.underlying3] at hy
        split at hy <;> simp_all
    obtain ⟨z, rfl⟩ := hlc
    obtain ⟨i, hi, _⟩ := DataW.trod_int Tryz.underlying3 hy
    exact ⟨i, hi, trivial⟩
  have pl : ∀ x : Int, ∀ v ∈ encI x, plainV v = true := fun x v hv => by rw [encI_eq] at hv; rw [List.mem_singleton.1 hv]; rfl
  rcases open_flat (Good := fun _ => True) encI_len (by decide) Tryz.underlying22 c3 hf snd with h1 | ⟨a, cap, l, h1, hlc, hcm, _, _, _, hm⟩
  · cases h1
    exact ⟨ρ, .slice none 0 0, h, [], s, Ren.le_refl ρ, .snil, none_in h, rfl, Gr.refl h, by simp⟩
  · cases h1
    have hML : maxLen < EX := by unfold maxLen EX; omega
    have hll : l.length ≤ 9223372036854775807 := by unfold maxLen at hcm; omega
    by_cases hne : l = []
    · subst hne
      exact ⟨ρ, .slice (some ⟨0, 0, some 0⟩) 0 0, h, [], s, Ren.le_refl ρ, .sj a cap, junk_in h, rfl, Gr.refl h, by simp⟩
    · obtain ⟨off, cs, e', fz, ha, hheap, hfit, hcell⟩ := hm hne
      have hlt : a.block < W.heap.size := (Array.getElem?_eq_some_iff.1 hheap).1
      have hsp : a.spot = none := by rw [ha]
      have hlen : (flatE encI l).length = l.length * 1 := flatE_length encI_len l
      have hlk : l.length * 1 ≤ cap * 1 := Nat.mul_le_mul_right 1 hlc
      have hcr : ∀ ρ', CRel ρ' (flatE encI l) cs off := fun ρ' => by
        refine ⟨by rw [hlen]; omega, fun i u hi => ⟨u, hcell i u hi, plain_rel ?_⟩⟩
        obtain ⟨x, hx, hux⟩ := List.mem_flatMap.1 (List.mem_of_getElem? hi)
        exact pl x u hux
      have s' := s.addRo hheap hlt 3 off (flatE encI l) (hcr _)
      have hcs := capLo_small (c := l.length) (by omega)
      refine ⟨_, .slice (some ⟨h.next, 0, none⟩) l.length l.length, _, l, s', Ren.le_put s.unmet, ?_, ⟨_, _, rfl, by rw [hcs.1]; exact Nat.le_refl _, fun _ => ⟨h.next, 0, flatE encI l, false, rfl, Nat.lt_succ_self _, by rw [get_new, if_pos rfl], fun i hi => by rw [Nat.zero_add]; exact flatE_cut encI_len l hi⟩⟩, rfl, ⟨Nat.le_succ _, fun b hb => by rw [get_new, if_neg (by omega)]⟩, hll⟩
      refine .sl (p := ⟨a.block, off, Tryz.prog.cellsOf 3, cs.size⟩) ⟨rfl, by rw [ha], _, Ren.put_self _ _ _, rfl, by rw [ha]; simp⟩ ⟨by rw [hcs.1]; exact hlc, fun hq => by rw [hcs.2] at hq; cases hq⟩ (by rw [hcs.1]; exact Nat.le_refl _) (Ren.put_self _ _ _) (.inr ?_)
      show 0 + off + cap * Tryz.prog.cellsOf 3 ≤ cs.size
      rw [c3]; omega
/-- the numbers of a list, opened one by one -/
theorem take_many : ∀ (l : List (Value × Int)) {ρ : Ren} {h : AHeap}, Sim Tryz.prog W.heap.size ρ h W → (∀ x ∈ l, GoodI W enc x.1) →
    ∃ (ρ' : Ren) (h' : AHeap) (V : List (Value × Int)) (L : List (List Int × Int)), Sim Tryz.prog W.heap.size ρ' h' W ∧ Ren.le ρ ρ' ∧ Gr h h' ∧ V.length = l.length ∧ V.length = L.length ∧ VRels ρ' (flatE encP V) (flatE encP l) ∧
      ∀ i (h1 : i < V.length) (h2 : i < L.length), V[i].2 = L[i].2 ∧ IIn h' V[i].1 L[i].1 ∧ okC V[i].1 = true ∧ L[i].1.length ≤ 9223372036854775807
  | [], ρ, h, s, _ => ⟨ρ, h, [], [], s, Ren.le_refl ρ, Gr.refl h, rfl, rfl, .nil, fun i h1 => absurd h1 (Nat.not_lt_zero i)⟩
  | x :: l, ρ, h, s, hg => by
    obtain ⟨ρ1, v, h1, d, s1, le1, r1, i1, o1, g1, b1⟩ := take_inner s (hg x (List.mem_cons_self ..))
    obtain ⟨ρ2, h2, V, L, s2, le2, g2, e1, e2, r2, all⟩ := take_many l s1 fun y hy => hg y (List.mem_cons_of_mem _ hy)
    refine ⟨ρ2, h2, (v, x.2) :: V, (d, x.2) :: L, s2, Ren.le_trans le1 le2, Gr.trans g1 g2, by simp [e1], by simp [e2], ?_, fun i q1 q2 => ?_⟩
    · rw [flatE_cons, flatE_cons]
      exact .cons (r1.mono le2) (.cons (.int _ _) r2)
    · match i, q1, q2 with
      | 0, _, _ => exact ⟨rfl, SlIn.gr i1 g2, o1, b1⟩
      | k + 1, q1, q2 => exact all k (by simpa using q1) (by simpa using q2)
set_option maxRecDepth 100000 in
theorem take_places {ρ0 : Ren} {h0 : AHeap} {m : Nat} {u : Value} {x : DataW H × List MemPlace} (s : Sim Tryz.prog W.heap.size ρ0 h0 W)
    (hf : DataW.trod enc Tryz.prog W 0 (fun _ => true) true m 36 [u] = some x) :
    ∃ ρ' v h' L, Sim Tryz.prog W.heap.size ρ' h' W ∧ VRel ρ' v u ∧ PIn h' v L ∧ L.length ≤ 9223372036854775807 ∧ ∀ i (hi : i < L.length), L[i].1.length ≤ 9223372036854775807 := by
  have c41 : Tryz.prog.cellsOf 41 = 2 := by kernel_rfl
  have c22 : Tryz.prog.cellsOf 22 = 1 := by kernel_rfl
  have c3 : Tryz.prog.cellsOf 3 = 1 := by kernel_rfl
  have snd : ∀ n cs y, DataW.trod enc Tryz.prog W 0 (fun _ => true) true n 41 cs = some y → ∃ x : Value × Int, cs = encP x ∧ GoodI W enc x.1 := fun n cs y hy => by
    obtain ⟨y0, y1, k, _, hl, h0, h1⟩ := trod_struct2 Tryz.underlying41 hy
    dsimp only at h0 h1
    rw [c41] at hl
    match cs, hl with
    | [a, b], _ =>
      simp only [c22, c3, List.drop_zero, List.take_succ_cons, List.take_zero, List.drop_succ_cons] at h0 h1
      obtain ⟨i, hi, _, _⟩ := DataW.trod_int Tryz.underlying3 h1
      simp only [List.cons.injEq, and_true] at hi
      subst hi
      exact ⟨(a, i), rfl, k, y0, h0⟩
  rcases open_flat (Good := fun x : Value × Int => GoodI W enc x.1) encP_len (by decide) Tryz.underlying36 c41 hf snd with h1 | ⟨a, cap, l, h1, hlc, hcm, hgood, _, _, hm⟩
  · cases h1
    exact ⟨ρ0, .slice none 0 0, h0, [], s, .snil, ⟨[], rfl, ⟨none, 0, rfl, Nat.zero_le _, fun h => absurd rfl h⟩, fun i h1 => absurd h1 (Nat.not_lt_zero i)⟩, by simp, fun i hi => absurd hi (Nat.not_lt_zero i)⟩
  · cases h1
    have hML : maxLen < EX := by unfold maxLen EX; omega
    have hll : l.length ≤ 9223372036854775807 := by unfold maxLen at hcm; omega
    by_cases hne : l = []
    · subst hne
      exact ⟨ρ0, .slice (some ⟨0, 0, some 0⟩) 0 0, h0, [], s, .sj a cap, ⟨[], rfl, ⟨_, 0, rfl, Nat.zero_le _, fun h => absurd rfl h⟩, fun i h1 => absurd h1 (Nat.not_lt_zero i)⟩, by simp, fun i hi => absurd hi (Nat.not_lt_zero i)⟩
    · obtain ⟨off, cs, e', fz, ha, hheap, hfit, hcell⟩ := hm hne
      have hlt : a.block < W.heap.size := (Array.getElem?_eq_some_iff.1 hheap).1
      obtain ⟨ρ1, h1, V, L, s1, _, _, eV, eL, rel, all⟩ := take_many l s hgood
      have hlen : (flatE encP V).length = l.length * 2 := by rw [flatE_length encP_len V, eV]
      have hlk : l.length * 2 ≤ cap * 2 := Nat.mul_le_mul_right 2 hlc
      have hcr : CRel ρ1 (flatE encP V) cs off := by
        refine ⟨by rw [hlen]; omega, fun i u hi => ?_⟩
        obtain ⟨u', q1, q2⟩ := rel.toArray_get hi
        rw [List.getElem?_toArray] at q1
        exact ⟨u', hcell i u' q1, q2⟩
      have s' := s1.addRo hheap hlt 41 off (flatE encP V) (hcr.mono (Ren.le_put s1.unmet))
      have hcs := capLo_small (c := V.length) (by rw [eV]; omega)
      refine ⟨_, .slice (some ⟨h1.next, 0, none⟩) V.length V.length, _, L, s', ?_, ⟨V, eL, ⟨_, _, rfl, by rw [hcs.1]; exact Nat.le_refl _, fun _ => ⟨h1.next, 0, flatE encP V, false, rfl, Nat.lt_succ_self _, by rw [get_new, if_pos rfl], fun i hi => by rw [Nat.zero_add]; exact flatE_cut encP_len V hi⟩⟩, fun i q1 q2 => ⟨(all i q1 q2).1, SlIn.gr (all i q1 q2).2.1 ⟨Nat.le_succ _, fun b hb => by rw [get_new, if_neg (by omega)]⟩, (all i q1 q2).2.2.1⟩⟩, by rw [← eL, eV]; exact hll, fun i hi => (all i (by rw [eL]; exact hi) hi).2.2.2⟩
      rw [eV] at hcs ⊢
      refine .sl (p := ⟨a.block, off, Tryz.prog.cellsOf 41, cs.size⟩) ⟨rfl, by rw [ha], _, Ren.put_self _ _ _, rfl, by rw [ha]; simp⟩ ⟨by rw [hcs.1]; exact hlc, fun hq => by rw [hcs.2] at hq; cases hq⟩ (by rw [hcs.1]; exact Nat.le_refl _) (Ren.put_self _ _ _) (.inr ?_)
      show 0 + off + cap * Tryz.prog.cellsOf 41 ≤ cs.size
      rw [c41]; omega
end Go.Proofs.YtcfohcpcepeolaaGreatDoor
namespace Go.Proofs.YtcfohcpcepeolaaGreatDoor.placeSums
open Go.ChangeShapes Go.WideShapes Go.ChangeAt Go.RowKit
open Go.Ev
theorem own : ownKnob Tryz.prog.godebug = none := by kernel_rfl
theorem laidOut : laidOutB Tryz.prog = true := by kernel_rfl
theorem door_met (os : Os) (args : Array Value) : laidMetH Tryz.prog Rows.placeSumsRow.laid ((World.doorLaid Tryz.prog 400 os).forCall (fun _ _ => 0) ⟨#[], args, []⟩).memory :=
  laidMetH_of_parts3 (fuel := 8) (laidMet_of_run' 8 (by kernel_rfl) (by kernel_rfl)) (by kernel_rfl) (by kernel_rfl)
set_option maxRecDepth 100000 in
theorem lifted (os : Os) (started : os.Started) (H : Type) (enc : TypeId × Value → H) :
    ReturnsInHanded {} Tryz.checked os 7 .any (fun w args => (Rows.placeSumsSpec.pre enc Tryz.prog Tryz.f7 [] false w args ∧ laidMetH Tryz.prog Rows.placeSumsRow.laid w) ∧ sizedMet enc Tryz.prog Tryz.f7 (OpenSpec.ofChange Rows.placeSumsSpec) false w args)
      (Rows.placeSumsSpec.post enc Tryz.prog Tryz.f7 false true false false) := by
  refine returnsInHanded_of_change_and (C := Tryz.checked) (X := fun w _ => laidMetH Tryz.prog Rows.placeSumsRow.laid w) (fun _ _ _ hh h => h.of_heap hh) own started (by kernel_rfl) Tryz.func7
    (ChangeSpec.witness_shaped (enc := enc) (C := Tryz.checked) (os := os) (X := fun w _ => laidMetH Tryz.prog Rows.placeSumsRow.laid w) false (World.doorLaid Tryz.prog 400 os) #[.slice none 0 0] 8 rfl (World.shaped_of_RefB (by kernel_rfl) (by kernel_rfl)) (by kernel_rfl) (by kernel_rfl) (by kernel_rfl) (door_met os _)) ?_
  intro W base args ds gs before hval0 hW hcnd hsize hL _
  have hval : ∀ (j : Nat) t v, Tryz.f7.params[j]? = some t → args[j]? = some v → Value.okWide Tryz.prog W .any base t v := hval0
  have hW' := hW
  obtain ⟨p, q, hA0, hV, rfl, hfz, hnd⟩ := hW
  have hA : DataW.TrodAll enc Tryz.prog W 0 (fun _ => true) true Tryz.f7.params.toList args.toList ds p := hA0
  rw [Tryz.params7] at hA hval
  obtain ⟨v0, vs0, d0, ds0, p0, q0, hargs, rfl, rfl, h0, r0⟩ := trodAll_cons hA
  obtain ⟨rfl, rfl, rfl⟩ := trodAll_nil r0
  obtain rfl : args = #[v0] := by cases args; simp_all
  obtain ⟨rfl, rfl⟩ := trodVars_none hV
  have hlt : ∀ x ∈ p0 ++ [] ++ [], x.block < W.heap.size := fun x hx => by simpa using hW'.lt x hx
  have w0 := hval 0 36 v0 rfl rfl
  obtain ⟨ax, nx, cx, rfl⟩ := okWide_slice Tryz.underlying36 w0
  obtain ⟨f0, hf0⟩ := id h0
  obtain ⟨ρ1, u, k1, L, st, hrel, hin, mL, mI⟩ := take_places (sim_empty Tryz.prog W) hf0
  have walk : Calls Tryz.prog 7 #[.slice ax nx cx] W fun e w' => e = .returned (.bool true) ∧ Below W.heap.size W w' :=
    ev_calls (args := [u]) (args' := [.slice ax nx cx]) Tryz.func7 rfl rfl st (.cons hrel .nil) (sums_w L u k1 hin mL mI)
  clear hA0 hval0
  refine walk.mono fun e W' ⟨he, bel⟩ => ?_
  subst he
  exact ⟨_, rfl, _, _, _, [], _, [], hW', trodAll_mk1 (shut_bool Tryz.underlying4 _),
    (trodAll_cons_mk (Below.trod laidOut (by kernel_rfl) (of_decide_eq_true (by kernel_rfl)) h0 bel (fun x hx => hlt x (by simp [hx]))) trodAll_mk0), rfl, bel.frame _, fun h => by cases h⟩

theorem over : Rows.placeSumsRow.holds Tryz.pinned (OpenSpec.ofChange Rows.placeSumsSpec) :=
  OpenClaim.holds_of_wide 7 Tryz.f7 rfl rfl rfl rfl rfl rfl rfl ⟨rfl, rfl, rfl, rfl, rfl⟩ rfl rfl rfl rfl rfl (by kernel_rfl) Tryz.func7 (by kernel_rfl)
    (of_decide_eq_true (by kernel_rfl)) (by unfold Func.isWrapper; first | (rw [if_pos (by decide +kernel)]; kernel_rfl) | (rw [if_neg (by decide +kernel)]; exact ⟨rfl, rfl⟩))
    (fun os started H enc _ => lifted os started H enc)

/-- ████ THE STATEMENT ████ -/
theorem proved : Rows.PlaceSumsCardSaid :=
  Claim7.holds_tied_plain_at .later [] [.data, .data, .data, .sentinel, .sentinel] true (true, "3dbcbd4109e0c1d89fb1f3793e36191d7b54fa4efe6209ee3821381d6668b83f") true
    over (fun _ h => by cases h) (by kernel_rfl) (fun _ h => by cases h) placeSums_row_tie rfl ⟨rfl, rfl⟩ (by kernel_rfl) rfl
    (fun f fn hf hfn => by
      obtain rfl : f = 7 := Option.some.inj ((show Tryz.prog.funcNamed "bulla/bullalaw03.PlaceSums" = some 7 by kernel_rfl).symm.trans hf) |>.symm
      obtain rfl : fn = Tryz.f7 := (Option.some.inj (Tryz.func7.symm.trans hfn)).symm
      exact ⟨by kernel_rfl, fun j t ht => by
        rw [Tryz.params7] at ht
        have hm : t ∈ [36] := by simpa using Array.mem_of_getElem? ht
        have hall : ([36].all fun u => !Tryz.prog.wantsStandIn u) = true := by kernel_rfl
        exact (show Tryz.prog.wantsStandIn t = false by simpa using List.all_eq_true.1 hall t hm)⟩)
    (by kernel_rfl)
#print axioms proved
end Go.Proofs.YtcfohcpcepeolaaGreatDoor.placeSums
