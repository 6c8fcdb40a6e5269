/-
  MetroRatioOrder returns true for any x, y and z: Cmp is an order, 0 only for the same ratio, kept by Add; Floor is the whole number below. Conditions: none beyond the form's own.
  How: an evaluator of calls without draws (Ev1 to Ev27, W1 to W3) is right in every world and on every schedule; the functions have contracts in it (G1 to G8).
-/
import Derived.Test.YtgaglaplilpgfaaG8
import Derived.Test.YtgaglaplilpgfaaA1
import Derived.Test.YtgaglaplilpgfaaT0
namespace Go.Proofs.Ytgaglaplilpgfaa.metroRatioOrder
open Go.ChangeShapes Go.WideShapes Go.ChangeAt Go.RowKit
open Go.Ev

theorem own : ownKnob Try.prog.godebug = none := by kernel_rfl

theorem wf64 {a : Int} (h : (Lit.int .i64 a).wf = true) : -9223372036854775808 ≤ a ∧ a ≤ 9223372036854775807 := by
  simp [Lit.wf] at h
  have hm : IntKind.i64.min = -9223372036854775808 := by kernel_rfl
  rw [hm] at h
  exact h

theorem cells83 : Try.prog.cellsOf 83 = 2 := by kernel_rfl
theorem cells3 : Try.prog.cellsOf 3 = 1 := by kernel_rfl

theorem walk (x0 x1 y0 y1 z0 z1 : Int) (w0 : (Lit.int .i64 x0).wf = true) (w1 : (Lit.int .i64 x1).wf = true) (w2 : (Lit.int .i64 y0).wf = true) (w3 : (Lit.int .i64 y1).wf = true) (w4 : (Lit.int .i64 z0).wf = true) (w5 : (Lit.int .i64 z1).wf = true) (w : World) :
    Calls Try.prog 12 #[.agg #[.int .i64 x0, .int .i64 x1], .agg #[.int .i64 y0, .int .i64 y1], .agg #[.int .i64 z0, .int .i64 z1]] w fun e w' => e = .returned (.bool true) ∧ Below w.heap.size w w' := by
  obtain ⟨a, b, e1, r1, q1⟩ := ratio_spec x0 x1 (wf64 w0).1 (wf64 w0).2 (wf64 w1).1 (wf64 w1).2
  obtain ⟨c, d, e2, r2, q2⟩ := ratio_spec y0 y1 (wf64 w2).1 (wf64 w2).2 (wf64 w3).1 (wf64 w3).2
  obtain ⟨u, v, e3, r3, q3⟩ := ratio_spec z0 z1 (wf64 w4).1 (wf64 w4).2 (wf64 w5).1 (wf64 w5).2
  refine true_calls (args := [.agg #[.int .i64 x0, .int .i64 x1], .agg #[.int .i64 y0, .int .i64 y1], .agg #[.int .i64 z0, .int .i64 z1]]) (args' := [.agg #[.int .i64 x0, .int .i64 x1], .agg #[.int .i64 y0, .int .i64 y1], .agg #[.int .i64 z0, .int .i64 z1]]) Try.func12 rfl rfl ?_ ?_ w
  · exact .cons (.agg (.cons (.int _ _) (.cons (.int _ _) .nil))) (.cons (.agg (.cons (.int _ _) (.cons (.int _ _) .nil))) (.cons (.agg (.cons (.int _ _) (.cons (.int _ _) .nil))) .nil))
  · exact (order_walk x0 x1 y0 y1 z0 z1 a b c d u v e1 e2 e3 _ r1 r2 r3 q1 q2 q3).mono fun v h' q => q.1

set_option maxRecDepth 100000 in
theorem lifted (os : Os) (started : os.Started) (H : Type) (enc : TypeId × Value → H) :
    ReturnsInHanded {} Try.checked os 12 .any (Rows.metroRatioOrderSpec.pre6 enc Try.prog Try.f12 Rows.metroRatioOrderRow.domain false) (Rows.metroRatioOrderSpec.post enc Try.prog Try.f12 false true false false) := by
  refine returnsInHanded_of_change (C := Try.checked) own started (by kernel_rfl) Try.func12
    (ChangeSpec.witness6 (enc := enc) (C := Try.checked) false ⟨#[], #[.agg #[.int .i64 0, .int .i64 0], .agg #[.int .i64 0, .int .i64 0], .agg #[.int .i64 0, .int .i64 0]], []⟩ 8 (by kernel_rfl) (by kernel_rfl) (by kernel_rfl) (by kernel_rfl)) ?_
  intro W base args ds gs before hval0 hW hcnd _
  have hval : ∀ (j : Nat) t v, Try.f12.params[j]? = some t → args[j]? = some v → Value.okWide Try.prog W .any base t v := hval0
  have hW' := hW
  obtain ⟨p, q, hA0, hV, rfl, hfz, hnd⟩ := hW
  have hA : DataW.TrodAll enc Try.prog W 0 (fun _ => true) true Try.f12.params.toList args.toList ds p := hA0
  rw [Try.params12] at hA hval
  obtain ⟨v0, vs0, d0, ds0, p0, q0, hargs, rfl, rfl, h0, r0⟩ := trodAll_cons hA
  obtain ⟨v1, vs1, d1, ds1, p1, q1, rfl, rfl, rfl, h1, r1⟩ := trodAll_cons r0
  obtain ⟨v2, vs2, d2, ds2, p2, q2, rfl, rfl, rfl, h2, r2⟩ := trodAll_cons r1
  obtain ⟨rfl, rfl, rfl⟩ := trodAll_nil r2
  obtain rfl : args = #[v0, v1, v2] := by cases args; simp_all
  obtain ⟨rfl, rfl⟩ := trodVars_none hV
  obtain ⟨x0, x1, rfl, rfl, rfl, w0, w1⟩ := open_arr2 Try.underlying83 Try.underlying3 cells3 cells83 (hval 0 83 v0 rfl rfl) h0
  obtain ⟨y0, y1, rfl, rfl, rfl, w2, w3⟩ := open_arr2 Try.underlying83 Try.underlying3 cells3 cells83 (hval 1 83 v1 rfl rfl) h1
  obtain ⟨z0, z1, rfl, rfl, rfl, w4, w5⟩ := open_arr2 Try.underlying83 Try.underlying3 cells3 cells83 (hval 2 83 v2 rfl rfl) h2
  clear hA0 hval0
  refine (walk x0 x1 y0 y1 z0 z1 w0 w1 w2 w3 w4 w5 W).mono fun e W' ⟨he, bel⟩ => ?_
  subst he
  exact ⟨_, rfl, _, _, _, [], _, [], hW', trodAll_mk1 (shut_bool Try.underlying4 _), (trodAll_cons_mk (shut_arr2 Try.underlying83 Try.underlying3 cells3 cells83 w0 w1) (trodAll_cons_mk (shut_arr2 Try.underlying83 Try.underlying3 cells3 cells83 w2 w3) (trodAll_cons_mk (shut_arr2 Try.underlying83 Try.underlying3 cells3 cells83 w4 w5) trodAll_mk0))), rfl, bel.frame _, fun h => by cases h⟩

theorem over : Rows.metroRatioOrderRow.holds Try.pinned (OpenSpec.ofChange Rows.metroRatioOrderSpec) :=
  OpenClaim.holds_of_wide 12 Try.f12 rfl rfl rfl rfl rfl rfl rfl ⟨rfl, rfl, rfl, rfl, rfl⟩ rfl rfl rfl rfl rfl (by kernel_rfl) Try.func12 (by kernel_rfl)
    (of_decide_eq_true (by kernel_rfl)) (by unfold Func.isWrapper; first | (rw [if_pos (by decide +kernel)]; kernel_rfl) | (rw [if_neg (by decide +kernel)]; exact ⟨rfl, rfl⟩))
    (fun os started H enc _ => lifted os started H enc)

/-- ████ THE STATEMENT ████ -/
theorem proved : Rows.MetroRatioOrderSaid :=
  over
#print axioms proved
end Go.Proofs.Ytgaglaplilpgfaa.metroRatioOrder
