/-
  PlaceRecips returns true for any list of numbers: Regular, Recip and Steps return what the reference returns, exponents, digits, pairs and errors. Conditions: none beyond the form's own; the laid variables are read by nobody on this way.
  How: an evaluator of calls without draws (Ev1 to Ev27, X1 to X6, W1 to W13) is right in every world and on every schedule; the functions of both sides have contracts in it (V0 to V97); the list of the factors is evaluated once and stands in for the call that makes it (X10, P3); the closed example call is evaluated (P0 to P2).
-/
import Derived.Test.YtelepfablohdmaaGreatDoorW6
import Derived.Test.YtelepfablohdmaaGreatDoorW3
import Derived.Test.YtelepfablohdmaaGreatDoorVA
import Derived.WalkKit
import Derived.ProofKit
import Derived.OpenShut
import Derived.ShutString
import Derived.ChangeSame
import Derived.Test.YtelepfablohdmaaGreatDoorVW
import Derived.Test.YtelepfablohdmaaGreatDoorTie
import Derived.Test.YtelepfablohdmaaGreatDoorCards
import Derived.Lay
import Derived.LaidMore
import Derived.LaidOnce
import Derived.SevenTiedAt
import Derived.SizedLaws
set_option linter.unusedSimpArgs false
set_option linter.unusedVariables false
/- Arguments that are slices: also the empty ones have an address. -/
namespace Go.Ev
open Go.ChangeShapes Go.WideShapes Go.ChangeAt Go.RowKit
theorem Sim.addDead {P : Program} {base : Nat} {ρ : Ren} {h : AHeap} {w : World} (s : Sim P base ρ h w) {b : Nat} (hlt : b < base) (off esz total : Nat) : Sim P base (ρ.put h.next ⟨b, off, esz, total⟩) (h.new .dead) w := by
  have hnone := s.unmet
  have hle := Ren.le_put (p := ⟨b, off, esz, total⟩) hnone
  refine ⟨⟨?_, ?_, ?_, ?_⟩, ?_, s.room⟩
  · intro k p hk
    by_cases e1 : h.next = k
    · exact ⟨.dead, by rw [get_new, if_pos e1], trivial⟩
    · rw [Ren.put_ne _ _ e1] at hk
      obtain ⟨o, h1, h2⟩ := s.rel.obj k p hk
      exact ⟨o, by rw [get_new, if_neg e1]; exact h1, h2.mono hle⟩
  · intro b₁ b₂ p₁ p₂ o₁ o₂ h1 h2 g1 g2 l1 l2 hp
    by_cases e1 : h.next = b₁
    · rw [get_new, if_pos e1] at g1; cases g1; cases l1
    · by_cases e2 : h.next = b₂
      · rw [get_new, if_pos e2] at g2; cases g2; cases l2
      · rw [get_new, if_neg e1] at g1
        rw [get_new, if_neg e2] at g2
        rw [Ren.put_ne _ _ e1] at h1
        rw [Ren.put_ne _ _ e2] at h2
        exact s.rel.inj _ _ _ _ _ _ h1 h2 g1 g2 l1 l2 hp
  · intro k p hk
    by_cases e1 : h.next = k
    · subst e1
      rw [Ren.put_self] at hk; cases hk
      exact Nat.lt_of_lt_of_le hlt s.room
    · rw [Ren.put_ne _ _ e1] at hk; exact s.rel.size k p hk
  · intro k p o hk ho hrw
    by_cases e1 : h.next = k
    · rw [get_new, if_pos e1] at ho; cases ho; cases hrw
    · rw [Ren.put_ne _ _ e1] at hk
      rw [get_new, if_neg e1] at ho
      exact s.rel.lo k p o hk ho hrw
  · intro k hk
    have hk' : Nat.succ h.next ≤ k := hk
    rw [get_new, if_neg (by omega)]
    exact s.void k (by omega)

section
variable {P : Program} {w : World} {H : Type} {enc : TypeId × Value → H}
/-- an argument that is a slice of plain elements -/
theorem take_slice {base : Nat} {ρ : Ren} {h : AHeap} {α : Type} {ev : α → List Value} {k fuel : Nat} {t e : TypeId} {u : Value} {x : DataW H × List MemPlace} {Good : α → Prop} (s : Sim P base ρ h w) (hk : ∀ x, (ev x).length = k) (hk0 : 0 < k) (hu : P.underlying t = some (.slice e)) (hce : P.cellsOf e = k) (hpl : ∀ x, ∀ v ∈ ev x, plainV v = true)
    (hf : DataW.trod enc P w 0 (fun _ => true) true fuel t [u] = some x) (hok : ∀ a n c, u = .slice (some a) n c → a.spot = none ∧ a.block < base)
    (sound : ∀ n cs y, DataW.trod enc P w 0 (fun _ => true) true n e cs = some y → ∃ x, cs = ev x ∧ Good x) :
    ∃ ρ' v h' l, Sim P base ρ' h' w ∧ Ren.le ρ ρ' ∧ VRel ρ' v u ∧ SlIn ev k e h' v l ∧ okC v = true ∧ Gr h h' ∧ (∀ z ∈ l, Good z) ∧ l.length ≤ maxLen ∧ (l = [] ∨ ∃ elems rest, x.1 = .slice elems rest ∧ l.length ≤ elems.length + rest.length) := by
  rcases open_flat hk hk0 hu hce hf sound with h1 | ⟨a, cap, l, h1, hlc, hcm, hg, ⟨elems, rest, h2, h3⟩, hrow, hm⟩
  · cases h1
    exact ⟨ρ, .slice none 0 0, h, [], s, Ren.le_refl ρ, .snil, ⟨none, 0, rfl, Nat.zero_le _, fun h => absurd rfl h⟩, rfl, Gr.refl h, fun _ h => (nomatch h), Nat.zero_le _, .inl rfl⟩
  · cases h1
    obtain ⟨hsp, hlt⟩ := hok a l.length cap rfl
    have hML : maxLen < EX := by unfold maxLen EX; omega
    by_cases hne : l = []
    · subst hne
      refine ⟨_, .slice (some ⟨h.next, 0, none⟩) 0 0, _, [], s.addDead hlt a.off 0 a.off, Ren.le_put s.unmet, ?_, ⟨_, 0, rfl, Nat.zero_le _, fun h => absurd rfl h⟩, rfl, ⟨Nat.le_succ _, fun b hb => by rw [get_new, if_neg (by omega)]⟩, fun _ h => (nomatch h), Nat.zero_le _, .inl rfl⟩
      refine .sl (p := ⟨a.block, a.off, 0, a.off⟩) ⟨rfl, hsp, _, Ren.put_self _ _ _, rfl, by simp⟩ ⟨Nat.zero_le _, fun hq => by cases hq⟩ (Nat.zero_le _) (Ren.put_self _ _ _) (.inr ?_)
      show 0 + a.off + cap * 0 ≤ a.off
      omega
    · obtain ⟨off, cs, e', fz, ha, hheap, hfit, hcell⟩ := hm hne
      have hlen : (flatE ev l).length = l.length * k := flatE_length hk l
      have hlk : l.length * k ≤ cap * k := Nat.mul_le_mul_right k hlc
      have hcr : ∀ ρ', CRel ρ' (flatE ev l) cs off := fun ρ' => by
        refine ⟨by rw [hlen]; omega, fun i u hi => ⟨u, hcell i u hi, plain_rel ?_⟩⟩
        obtain ⟨x, hx, hux⟩ := List.mem_flatMap.1 (List.mem_of_getElem? hi)
        exact hpl x u hux
      have s' := s.addRo hheap hlt e off (flatE ev l) (hcr _)
      have hcs := capLo_small (c := l.length) (by omega)
      refine ⟨_, .slice (some ⟨h.next, 0, none⟩) l.length l.length, _, l, s', Ren.le_put s.unmet, ?_, ⟨_, _, rfl, by rw [hcs.1]; exact Nat.le_refl _, fun _ => ⟨h.next, 0, flatE ev l, false, rfl, Nat.lt_succ_self _, by rw [get_new, if_pos rfl], fun i hi => by rw [Nat.zero_add]; exact flatE_cut hk l hi⟩⟩, rfl, ⟨Nat.le_succ _, fun b hb => by rw [get_new, if_neg (by omega)]⟩, hg, Nat.le_trans hlc hcm, .inr ⟨elems, rest, h2, by omega⟩⟩
      refine .sl (p := ⟨a.block, off, P.cellsOf e, cs.size⟩) ⟨rfl, by rw [ha], _, Ren.put_self _ _ _, rfl, by rw [ha]; simp⟩ ⟨by rw [hcs.1]; exact hlc, fun hq => by rw [hcs.2] at hq; cases hq⟩ (by rw [hcs.1]; exact Nat.le_refl _) (Ren.put_self _ _ _) (.inr ?_)
      show 0 + off + cap * P.cellsOf e ≤ cs.size
      rw [hce]; omega
theorem slice_has {r : Go.Reach} {b0 : Nat} {t e : TypeId} {u : Value} (hu : P.underlying t = some (.slice e)) (h : Cell.okWide P w r b0 t u) : ∀ a n c, u = .slice (some a) n c → a.spot = none ∧ a.block < w.heap.size := by
  rintro a n c rfl
  simp only [Cell.okWide, Cell.ok, hu] at h
  obtain ⟨_, _, _, hs, row, cells, hsh, _⟩ := h
  refine ⟨hs, ?_⟩
  unfold World.shape? at hsh
  split at hsh
  · rename_i hh
    exact (Array.getElem?_eq_some_iff.1 hh).1
  · cases hsh
end
end Go.Ev
/- From a walk to the model's calls, with arguments in memory. -/
namespace Go.Proofs.YtelepfablohdmaaGreatDoor
open Go.ChangeShapes Go.WideShapes Go.ChangeAt Go.RowKit
open Go.Ev
theorem ev_calls {f : FuncId} {fn : Func} {body : Code} {args args' : List Value} {w : World} {ρ : Ren} {h : AHeap} (hf : Tryz.prog.funcs[f]? = some fn) (hb : fn.body = some body) (hno : isIn pr.K f = false) (st : Sim pr.P w.heap.size ρ h w) (ha : VRels ρ args args') (c : Wc pr (.func f) args h fun v _ => v = .bool true) (hL : isIn pr.L f = false := by rfl) :
    Calls Tryz.prog f args'.toArray w fun e w' => e = .returned (.bool true) ∧ RowKit.Below w.heap.size w w' := by
  refine (Wc.calls (p := pr) orders noNum known18 hf hb hno ha st c hL x_good).mono ?_
  rintro e w' ⟨ρ', v, v', h', rfl, hv, hw, rfl⟩
  exact ⟨by rw [hv.bool_inv], hw.ext.below⟩
end Go.Proofs.YtelepfablohdmaaGreatDoor
/- An argument that is a list of integers. -/
namespace Go.Proofs.YtelepfablohdmaaGreatDoor
open Go.ChangeShapes Go.WideShapes Go.ChangeAt Go.RowKit
open Go.Ev
set_option maxRecDepth 100000 in
theorem take_ints {W : World} {H : Type} {enc : TypeId × Value → H} {base : Nat} {ρ : Ren} {h : AHeap} {fuel : Nat} {u : Value} {x : DataW H × List MemPlace} (s : Sim Tryz.prog base ρ h W)
    (hf : DataW.trod enc Tryz.prog W 0 (fun _ => true) true fuel 22 [u] = some x) (hok : ∀ a n c, u = .slice (some a) n c → a.spot = none ∧ a.block < base) :
    ∃ ρ' v h' l, Sim Tryz.prog base ρ' h' W ∧ Ren.le ρ ρ' ∧ VRel ρ' v u ∧ IIn h' v l ∧ Gr h h' ∧ (l = [] ∨ ∃ elems rest, x.1 = .slice elems rest ∧ l.length ≤ elems.length + rest.length) := by
  have c3 : Tryz.prog.cellsOf 3 = 1 := by kernel_rfl
  have snd : ∀ n cs y, DataW.trod enc Tryz.prog W 0 (fun _ => true) true n 3 cs = some y → ∃ x : Int, cs = encI x ∧ True := fun n cs y hy => by
    have hlc : ∃ z, cs = [z] := by
      cases n with
      | zero => cases hy
      | succ n =>
        unfold DataW.trod at hy
        rw [Tryz.underlying3] at hy
        split at hy <;> simp_all
    obtain ⟨z, rfl⟩ := hlc
    obtain ⟨i, hi, _⟩ := DataW.trod_int Tryz.underlying3 hy
    exact ⟨i, hi, trivial⟩
  have pl : ∀ x : Int, ∀ v ∈ encI x, plainV v = true := fun x v hv => by rw [encI_eq] at hv; rw [List.mem_singleton.1 hv]; rfl
  obtain ⟨ρ1, u1, h1', l, st, le, hrel1, hin1, _, gr, _, _, hb1⟩ := take_slice (e := 3) (ev := encI) (Good := fun _ => True) s encI_len (by decide) Tryz.underlying22 c3 pl hf hok snd
  exact ⟨ρ1, u1, h1', l, st, le, hrel1, hin1, gr, hb1⟩
end Go.Proofs.YtelepfablohdmaaGreatDoor
namespace Go.Proofs.YtelepfablohdmaaGreatDoor.placeRecips
open Go.ChangeShapes Go.WideShapes Go.ChangeAt Go.RowKit
open Go.Ev
theorem own : ownKnob Tryz.prog.godebug = none := by kernel_rfl
theorem laidOut : laidOutB Tryz.prog = true := by kernel_rfl
theorem door_met (os : Os) (args : Array Value) : laidMetH Tryz.prog Rows.placeRecipsRow.laid ((World.doorLaid Tryz.prog 400 os).forCall (fun _ _ => 0) ⟨#[], args, []⟩).memory :=
  laidMetH_of_parts3 (fuel := 8) (laidMet_of_run' 8 (by kernel_rfl) (by kernel_rfl)) (by kernel_rfl) (by kernel_rfl)
set_option maxRecDepth 100000 in
theorem lifted (os : Os) (started : os.Started) (H : Type) (enc : TypeId × Value → H) :
    ReturnsInHanded {} Tryz.checked os 5 .any (fun w args => (Rows.placeRecipsSpec.pre enc Tryz.prog Tryz.f5 [] false w args ∧ laidMetH Tryz.prog Rows.placeRecipsRow.laid w) ∧ sizedMet enc Tryz.prog Tryz.f5 (OpenSpec.ofChange Rows.placeRecipsSpec) false w args)
      (Rows.placeRecipsSpec.post enc Tryz.prog Tryz.f5 false true false false) := by
  refine returnsInHanded_of_change_and (C := Tryz.checked) (X := fun w _ => laidMetH Tryz.prog Rows.placeRecipsRow.laid w) (fun _ _ _ hh h => h.of_heap hh) own started (by kernel_rfl) Tryz.func5
    (ChangeSpec.witness_shaped (enc := enc) (C := Tryz.checked) (os := os) (X := fun w _ => laidMetH Tryz.prog Rows.placeRecipsRow.laid w) false (World.doorLaid Tryz.prog 400 os) #[.slice none 0 0] 8 rfl (World.shaped_of_RefB (by kernel_rfl) (by kernel_rfl)) (by kernel_rfl) (by kernel_rfl) (by kernel_rfl) (door_met os _)) ?_
  intro W base args ds gs before hval0 hW hcnd hsize hL _
  have hval : ∀ (j : Nat) t v, Tryz.f5.params[j]? = some t → args[j]? = some v → Value.okWide Tryz.prog W .any base t v := hval0
  have hW' := hW
  obtain ⟨p, q, hA0, hV, rfl, hfz, hnd⟩ := hW
  have hA : DataW.TrodAll enc Tryz.prog W 0 (fun _ => true) true Tryz.f5.params.toList args.toList ds p := hA0
  rw [Tryz.params5] at hA hval
  obtain ⟨v0, vs0, d0, ds0, p0, q0, hargs, rfl, rfl, h0, r0⟩ := trodAll_cons hA
  obtain ⟨rfl, rfl, rfl⟩ := trodAll_nil r0
  obtain rfl : args = #[v0] := by cases args; simp_all
  obtain ⟨rfl, rfl⟩ := trodVars_none hV
  have hlt : ∀ x ∈ p0 ++ [] ++ [], x.block < W.heap.size := fun x hx => by simpa using hW'.lt x hx
  have hasOf : ∀ v, Value.okWide Tryz.prog W .any base 22 v → ∀ a n c, v = .slice (some a) n c → a.spot = none ∧ a.block < W.heap.size := fun v hc => by
    simp only [Value.okWide, Tryz.underlying22] at hc
    exact slice_has Tryz.underlying22 hc
  have w0 := hval 0 22 v0 rfl rfl
  have s0 := hasOf v0 w0
  obtain ⟨x0, y0, z0, rfl⟩ := okWide_slice Tryz.underlying22 w0
  obtain ⟨f0, hf0⟩ := id h0
  obtain ⟨ρ0, u0, k0, l0, st0, _, e0, i0, _, b0⟩ := take_ints (sim_empty Tryz.prog W) hf0 s0
  have by3 : Tryz.checked.prog.bytesOf 3 = 8 := by kernel_rfl
  have hrb : reachBytes = 140737488351232 := rfl
  have m0 : l0.length ≤ 4611686018427387904 := by
    rcases b0 with h | ⟨elems, rest, he, hle⟩
    · rw [h]; decide
    · have he' : d0 = .slice elems rest := he
      subst he'
      have h2 := sized_slice (j := 0) (t := 22) (e := 3) hsize (by rw [Tryz.params5]; rfl) rfl Tryz.underlying22
      rw [by3] at h2
      omega
  have walk : Calls Tryz.prog 5 #[.slice x0 y0 z0] W fun e w' => e = .returned (.bool true) ∧ Below W.heap.size W w' :=
    ev_calls (args := [u0]) (args' := [.slice x0 y0 z0]) Tryz.func5 rfl rfl st0 (.cons e0 .nil) (recips_w l0 m0 u0 k0 i0)
  clear hA0 hval0
  refine walk.mono fun e W' ⟨he, bel⟩ => ?_
  subst he
  exact ⟨_, rfl, _, _, _, [], _, [], hW', trodAll_mk1 (shut_bool Tryz.underlying4 _),
    (trodAll_cons_mk (Below.trod laidOut (by kernel_rfl) (of_decide_eq_true (by kernel_rfl)) h0 bel (fun x hx => hlt x (by simp [hx]))) trodAll_mk0), rfl, bel.frame _, fun h => by cases h⟩

theorem over : Rows.placeRecipsRow.holds Tryz.pinned (OpenSpec.ofChange Rows.placeRecipsSpec) :=
  OpenClaim.holds_of_wide 5 Tryz.f5 rfl rfl rfl rfl rfl rfl rfl ⟨rfl, rfl, rfl, rfl, rfl⟩ rfl rfl rfl rfl rfl (by kernel_rfl) Tryz.func5 (by kernel_rfl)
    (of_decide_eq_true (by kernel_rfl)) (by unfold Func.isWrapper; first | (rw [if_pos (by decide +kernel)]; kernel_rfl) | (rw [if_neg (by decide +kernel)]; exact ⟨rfl, rfl⟩))
    (fun os started H enc _ => lifted os started H enc)

/-- ████ THE STATEMENT ████ -/
theorem proved : Rows.PlaceRecipsCardSaid :=
  Claim7.holds_tied_plain_at .later [] [.data, .data, .data, .sentinel, .sentinel] true (true, "3dbcbd4109e0c1d89fb1f3793e36191d7b54fa4efe6209ee3821381d6668b83f") true
    over (fun _ h => by cases h) (by kernel_rfl) (fun _ h => by cases h) placeRecips_row_tie rfl ⟨rfl, rfl⟩ (by kernel_rfl) rfl
    (fun f fn hf hfn => by
      obtain rfl : f = 5 := Option.some.inj ((show Tryz.prog.funcNamed "bulla/bullalaw03.PlaceRecips" = some 5 by kernel_rfl).symm.trans hf) |>.symm
      obtain rfl : fn = Tryz.f5 := (Option.some.inj (Tryz.func5.symm.trans hfn)).symm
      exact ⟨by kernel_rfl, fun j t ht => by
        rw [Tryz.params5] at ht
        have hm : t ∈ [22] := by simpa using Array.mem_of_getElem? ht
        have hall : ([22].all fun u => !Tryz.prog.wantsStandIn u) = true := by kernel_rfl
        exact (show Tryz.prog.wantsStandIn t = false by simpa using List.all_eq_true.1 hall t hm)⟩)
    (by kernel_rfl)
#print axioms proved
end Go.Proofs.YtelepfablohdmaaGreatDoor.placeRecips
