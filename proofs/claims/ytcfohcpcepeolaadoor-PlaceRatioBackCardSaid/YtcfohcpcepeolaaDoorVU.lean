/-
  PlaceRatioBack returns true for any four numbers: the place-value number of a ratio is read back as the ratio, of two ratios the smaller one has the smaller number, and sums agree. Conditions: none beyond the form's own; the laid variables are read by nobody on this way.
  How: an evaluator of calls without draws (Ev1 to Ev27, X1 to X5, W1 to W11) is right in every world and on every schedule; the functions have contracts in it (V0 to V59); the closed example call is evaluated (P0 to P2).
-/
import Derived.Test.YtcfohcpcepeolaaDoorW6
import Derived.Test.YtcfohcpcepeolaaDoorW3
import Derived.Test.YtcfohcpcepeolaaDoorVA
import Derived.WalkKit
import Derived.ProofKit
import Derived.OpenShut
import Derived.ShutString
import Derived.ChangeSame
import Derived.Test.YtcfohcpcepeolaaDoorVN
import Derived.Test.YtcfohcpcepeolaaDoorTie
import Derived.Test.YtcfohcpcepeolaaDoorCards
import Derived.Lay
import Derived.LaidMore
import Derived.LaidOnce
import Derived.SevenTiedAt
import Derived.SizedLaws
set_option linter.unusedSimpArgs false
set_option linter.unusedVariables false
/- Arguments that are slices: also the empty ones have an address. -/
namespace Go.Ev
open Go.ChangeShapes Go.WideShapes Go.ChangeAt Go.RowKit
section
variable {P : Program} {w : World} {H : Type} {enc : TypeId × Value → H}
end
end Go.Ev
/- From a walk to the model's calls, with arguments in memory. -/
namespace Go.Proofs.YtcfohcpcepeolaaDoor
open Go.ChangeShapes Go.WideShapes Go.ChangeAt Go.RowKit
open Go.Ev
theorem ev_calls {f : FuncId} {fn : Func} {body : Code} {args args' : List Value} {w : World} {ρ : Ren} {h : AHeap} (hf : Tryd.prog.funcs[f]? = some fn) (hb : fn.body = some body) (hno : isIn pr.K f = false) (st : Sim pr.P w.heap.size ρ h w) (ha : VRels ρ args args') (c : Wc pr (.func f) args h fun v _ => v = .bool true) :
    Calls Tryd.prog f args'.toArray w fun e w' => e = .returned (.bool true) ∧ RowKit.Below w.heap.size w w' := by
  refine (Wc.calls (p := pr) orders noNum known18 hf hb hno ha st c).mono ?_
  rintro e w' ⟨ρ', v, v', h', rfl, hv, hw, rfl⟩
  exact ⟨by rw [hv.bool_inv], hw.ext.below⟩
end Go.Proofs.YtcfohcpcepeolaaDoor
/- Arguments of two integers in one array. -/
namespace Go.Proofs.YtcfohcpcepeolaaDoor
open Go.ChangeShapes Go.WideShapes Go.ChangeAt Go.RowKit
variable {P : Program} {w : World} {H : Type} {enc : TypeId × Value → H} {base : Nat} {sp : Nat → Bool} {held : Bool}
theorem okWide_arr {t e : TypeId} {n : Nat} {r : Reach} {b0 : Nat} {v : Value} (ht : P.underlying t = some (.array n e)) (h : Value.okWide P w r b0 t v) : ∃ cs, v = .agg cs ∧ cs.size = P.cellsOf t := by
  simp only [Value.okWide, ht] at h
  obtain ⟨cs, h1, h2, _⟩ := h
  exact ⟨cs, h1, h2⟩
theorem open_arr2 {r : Reach} {b0 : Nat} {t e : TypeId} {k : IntKind} {v : Value} {d : DataW H} {ps : List MemPlace} (ht : P.underlying t = some (.array 2 e)) (he : P.underlying e = some (.int k)) (hc : P.cellsOf e = 1) (hct : P.cellsOf t = 2)
    (hval : Value.okWide P w r b0 t v) (hd : DataW.Trod enc P w base sp held t v d ps) :
    ∃ a b, v = .agg #[.int k a, .int k b] := by
  obtain ⟨cs, rfl, hs⟩ := okWide_arr ht hval
  obtain ⟨fuel, hf⟩ := hd
  obtain ⟨xs, m, _, hx, hl, hlen, hg⟩ := DataW.trod_array ht hf
  obtain ⟨cs⟩ := cs
  match cs, hs, hct with
  | cs, hs, hct =>
    rw [hct] at hs
    match cs, hs with
    | [x, y], _ =>
      match xs, hlen with
      | [u, u2], _ =>
        have h0 := hg 0 (by omega)
        have h1 := hg 1 (by omega)
        simp [Value.cells, hc] at h0 h1
        obtain ⟨a, ha, _, _⟩ := DataW.trod_int he h0
        obtain ⟨b, hb, _, _⟩ := DataW.trod_int he h1
        simp at ha hb
        subst ha; subst hb
        exact ⟨a, b, rfl⟩
end Go.Proofs.YtcfohcpcepeolaaDoor
namespace Go.Proofs.YtcfohcpcepeolaaDoor.placeRatioBack
open Go.ChangeShapes Go.WideShapes Go.ChangeAt Go.RowKit
open Go.Ev
theorem own : ownKnob Tryd.prog.godebug = none := by kernel_rfl
theorem laidOut : laidOutB Tryd.prog = true := by kernel_rfl
theorem door_met (os : Os) (args : Array Value) : laidMetH Tryd.prog Rows.placeRatioBackRow.laid ((World.doorLaid Tryd.prog 400 os).forCall (fun _ _ => 0) ⟨#[], args, []⟩).memory :=
  laidMetH_of_parts3 (fuel := 8) (laidMet_of_run' 8 (by kernel_rfl) (by kernel_rfl)) (by kernel_rfl) (by kernel_rfl)
set_option maxRecDepth 100000 in
theorem lifted (os : Os) (started : os.Started) (H : Type) (enc : TypeId × Value → H) :
    ReturnsInHanded {} Tryd.checked os 12 .any (fun w args => (Rows.placeRatioBackSpec.pre enc Tryd.prog Tryd.f12 [] false w args ∧ laidMetH Tryd.prog Rows.placeRatioBackRow.laid w) ∧ sizedMet enc Tryd.prog Tryd.f12 (OpenSpec.ofChange Rows.placeRatioBackSpec) false w args)
      (Rows.placeRatioBackSpec.post enc Tryd.prog Tryd.f12 false true false false) := by
  refine returnsInHanded_of_change_and (C := Tryd.checked) (X := fun w _ => laidMetH Tryd.prog Rows.placeRatioBackRow.laid w) (fun _ _ _ hh h => h.of_heap hh) own started (by kernel_rfl) Tryd.func12
    (ChangeSpec.witness_shaped (enc := enc) (C := Tryd.checked) (os := os) (X := fun w _ => laidMetH Tryd.prog Rows.placeRatioBackRow.laid w) false (World.doorLaid Tryd.prog 400 os) #[.agg #[.int .i64 0, .int .i64 0], .agg #[.int .i64 0, .int .i64 0]] 8 rfl (World.shaped_of_RefB (by kernel_rfl) (by kernel_rfl)) (by kernel_rfl) (by kernel_rfl) (by kernel_rfl) (door_met os _)) ?_
  intro W base args ds gs before hval0 hW hcnd hsize hL _
  have hval : ∀ (j : Nat) t v, Tryd.f12.params[j]? = some t → args[j]? = some v → Value.okWide Tryd.prog W .any base t v := hval0
  have hW' := hW
  obtain ⟨p, q, hA0, hV, rfl, hfz, hnd⟩ := hW
  have hA : DataW.TrodAll enc Tryd.prog W 0 (fun _ => true) true Tryd.f12.params.toList args.toList ds p := hA0
  rw [Tryd.params12] at hA hval
  obtain ⟨v0, vs0, d0, ds0, p0, q0, hargs, rfl, rfl, h0, r0⟩ := trodAll_cons hA
  obtain ⟨v1, vs1, d1, ds1, p1, q1, rfl, rfl, rfl, h1, r1⟩ := trodAll_cons r0
  obtain ⟨rfl, rfl, rfl⟩ := trodAll_nil r1
  obtain rfl : args = #[v0, v1] := by cases args; simp_all
  obtain ⟨rfl, rfl⟩ := trodVars_none hV
  have hlt : ∀ x ∈ p0 ++ (p1 ++ []) ++ [], x.block < W.heap.size := fun x hx => by simpa using hW'.lt x hx
  have c3 : Tryd.prog.cellsOf 3 = 1 := by kernel_rfl
  have c66 : Tryd.prog.cellsOf 66 = 2 := by kernel_rfl
  obtain ⟨x0, x1, rfl⟩ := open_arr2 Tryd.underlying66 Tryd.underlying3 c3 c66 (hval 0 66 v0 rfl rfl) h0
  obtain ⟨y0, y1, rfl⟩ := open_arr2 Tryd.underlying66 Tryd.underlying3 c3 c66 (hval 1 66 v1 rfl rfl) h1
  have arr : ∀ (ρ : Ren) (a b : Int), VRel ρ (.agg #[.int .i64 a, .int .i64 b]) (.agg #[.int .i64 a, .int .i64 b]) := fun ρ a b => .agg (.cons (.int _ _) (.cons (.int _ _) .nil))
  have walk : Calls Tryd.prog 12 #[.agg #[.int .i64 x0, .int .i64 x1], .agg #[.int .i64 y0, .int .i64 y1]] W fun e w' => e = .returned (.bool true) ∧ Below W.heap.size W w' :=
    ev_calls (args := [.agg #[.int .i64 x0, .int .i64 x1], .agg #[.int .i64 y0, .int .i64 y1]]) (args' := [.agg #[.int .i64 x0, .int .i64 x1], .agg #[.int .i64 y0, .int .i64 y1]]) Tryd.func12 rfl rfl (sim_empty Tryd.prog W) (.cons (arr _ _ _) (.cons (arr _ _ _) .nil)) (ratioback_w x0 x1 y0 y1 _)
  clear hA0 hval0
  refine walk.mono fun e W' ⟨he, bel⟩ => ?_
  subst he
  exact ⟨_, rfl, _, _, _, [], _, [], hW', trodAll_mk1 (shut_bool Tryd.underlying4 _),
    (trodAll_cons_mk (Below.trod laidOut (by kernel_rfl) (of_decide_eq_true (by kernel_rfl)) h0 bel (fun x hx => hlt x (by simp [hx]))) (trodAll_cons_mk (Below.trod laidOut (by kernel_rfl) (of_decide_eq_true (by kernel_rfl)) h1 bel (fun x hx => hlt x (by simp [hx]))) trodAll_mk0)), rfl, bel.frame _, fun h => by cases h⟩

theorem over : Rows.placeRatioBackRow.holds Tryd.pinned (OpenSpec.ofChange Rows.placeRatioBackSpec) :=
  OpenClaim.holds_of_wide 12 Tryd.f12 rfl rfl rfl rfl rfl rfl rfl ⟨rfl, rfl, rfl, rfl, rfl⟩ rfl rfl rfl rfl rfl (by kernel_rfl) Tryd.func12 (by kernel_rfl)
    (of_decide_eq_true (by kernel_rfl)) (by unfold Func.isWrapper; first | (rw [if_pos (by decide +kernel)]; kernel_rfl) | (rw [if_neg (by decide +kernel)]; exact ⟨rfl, rfl⟩))
    (fun os started H enc _ => lifted os started H enc)

/-- ████ THE STATEMENT ████ -/
theorem proved : Rows.PlaceRatioBackCardSaid :=
  Claim7.holds_tied_plain_at .later [] [.data, .data, .data, .sentinel, .sentinel] true (true, "bd892c4444a31cd429df92d33bdde4b8fe5a6a42d748716a65f78352491fc3bf") true
    over (fun _ h => by cases h) (by kernel_rfl) (fun _ h => by cases h) placeRatioBack_row_tie rfl ⟨rfl, rfl⟩ (by kernel_rfl) rfl
    (fun f fn hf hfn => by
      obtain rfl : f = 12 := Option.some.inj ((show Tryd.prog.funcNamed "bulla/bullalaw03.PlaceRatioBack" = some 12 by kernel_rfl).symm.trans hf) |>.symm
      obtain rfl : fn = Tryd.f12 := (Option.some.inj (Tryd.func12.symm.trans hfn)).symm
      exact ⟨by kernel_rfl, fun j t ht => by
        rw [Tryd.params12] at ht
        have hm : t ∈ [66, 66] := by simpa using Array.mem_of_getElem? ht
        have hall : ([66, 66].all fun u => !Tryd.prog.wantsStandIn u) = true := by kernel_rfl
        exact (show Tryd.prog.wantsStandIn t = false by simpa using List.all_eq_true.1 hall t hm)⟩)
    (by kernel_rfl)
#print axioms proved
end Go.Proofs.YtcfohcpcepeolaaDoor.placeRatioBack
