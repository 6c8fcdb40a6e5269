/- Arguments that are ladders. -/
import Derived.Test.YtfmiimehobcmaaaL6
import Derived.Test.YtfmiimehobcmaaaB0
import Derived.Test.YtfmiimehobcmaaaRows
import Derived.WalkKit
import Derived.ProofKit
import Derived.OpenShut
import Derived.ShutString
import Derived.ChangeSame
set_option linter.unusedSimpArgs false
set_option linter.unusedVariables false
namespace Go.Proofs.Ytfmiimehobcmaaa
open Go.ChangeShapes Go.WideShapes Go.ChangeAt Go.RowKit
open Go.Ev

theorem ev_calls {f : FuncId} {fn : Func} {body : Code} {args args' : List Value} {w : World} {ρ : Ren} {h : AHeap} (hf : Try.prog.funcs[f]? = some fn) (hb : fn.body = some body) (hno : isIn pr.K f = false) (st : Sim pr.P w.heap.size ρ h w) (ha : VRels ρ args args') (c : Wc pr (.func f) args h fun v _ => v = .bool true) :
    Calls Try.prog f args'.toArray w fun e w' => e = .returned (.bool true) ∧ RowKit.Below w.heap.size w w' := by
  refine (Wc.calls (p := pr) orders noNum known21 hf hb hno ha st c).mono ?_
  rintro e w' ⟨ρ', v, v', h', rfl, hv, hw, rfl⟩
  exact ⟨by rw [hv.bool_inv], hw.ext.below⟩

variable {P : Program} {w : World} {H : Type} {enc : TypeId × Value → H}
theorem unit_sound {n : Nat} {t : TypeId} {f0 f1 : Field} {cs : List Value} {y : DataW H × List MemPlace} (ht : P.underlying t = some (.struct #[f0, f1])) (u0 : P.underlying f0.type = some .string) (u1 : P.underlying f1.type = some (.int .i64)) (o0 : f0.offset = 0) (o1 : f1.offset = 1) (c0 : P.cellsOf f0.type = 1) (c1 : P.cellsOf f1.type = 1) (ct : P.cellsOf t = 2)
    (h : DataW.trod enc P w 0 (fun _ => true) true n t cs = some y) : ∃ x : ByteArray × Int, cs = encU x ∧ (Lit.int .i64 x.2).wf = true := by
  obtain ⟨y0, y1, m, _, hl, h0, h1⟩ := trod_struct2 ht h
  rw [ct] at hl
  rw [o0, c0] at h0
  rw [o1, c1] at h1
  match cs, hl with
  | [a, b], _ =>
    simp only [List.drop_zero, List.take_succ_cons, List.take_zero, List.drop_succ_cons] at h0 h1
    obtain ⟨i, hi, _, hw⟩ := DataW.trod_int u1 h1
    have hs : ∃ s, a = .string s := by
      cases m with
      | zero => cases h0
      | succ m =>
        unfold DataW.trod at h0
        rw [u0] at h0
        cases a <;> simp_all
    obtain ⟨s, rfl⟩ := hs
    simp only [List.cons.injEq, and_true] at hi
    subst hi
    exact ⟨(s, i), rfl, hw⟩

theorem plain_encU : ∀ x : ByteArray × Int, ∀ v ∈ encU x, plainV v = true := by
  intro x v hv
  rw [encU_eq] at hv
  rcases List.mem_cons.1 hv with rfl | hv
  · rfl
  · rw [List.mem_singleton.1 hv]; rfl


set_option maxRecDepth 100000 in
theorem open_lad {b0 : Nat} {v : Value} {d : DataW H} {ps : List MemPlace} (h : DataW.Trod enc Try.prog w 0 (fun _ => true) true 42 v d ps) (hval : Value.okWide Try.prog w .any b0 42 v) :
    ∃ (nm : ByteArray) (u : Value) (m : Nat) (y : DataW H × List MemPlace), v = .agg #[.string nm, u] ∧ (∀ a n c, u = .slice (some a) n c → a.spot = none ∧ a.block < w.heap.size) ∧ d = .agg [.lit (.string nm.data.toList), y.1] ∧ ps = y.2 ∧ DataW.trod enc Try.prog w 0 (fun _ => true) true m 40 [u] = some y := by
  have hval0 := hval
  obtain ⟨cs, rfl, hs⟩ := okWide_struct Try.underlying42 hval
  obtain ⟨fuel, hf⟩ := h
  obtain ⟨y0, y1, m, hx, hl, h0, h1⟩ := trod_struct2 Try.underlying42 hf
  dsimp only at h0 h1
  have ct : Try.prog.cellsOf 42 = 2 := by kernel_rfl
  have c9 : Try.prog.cellsOf 9 = 1 := by kernel_rfl
  have c40 : Try.prog.cellsOf 40 = 1 := by kernel_rfl
  obtain ⟨cs⟩ := cs
  rw [ct] at hs
  match cs, hs with
  | [a, b], _ =>
    simp only [Value.cells, c9, c40, List.drop_zero, List.take_succ_cons, List.take_zero, List.drop_succ_cons] at h0 h1
    have hs : ∃ s, a = .string s ∧ y0 = (.lit (.string s.data.toList), []) := by
      cases m with
      | zero => cases h0
      | succ m =>
        unfold DataW.trod at h0
        rw [Try.underlying9] at h0
        split at h0 <;> simp_all
    obtain ⟨s, rfl, rfl⟩ := hs
    cases hx
    refine ⟨s, b, m, y1, rfl, ?_, rfl, by simp, h1⟩
    simp only [Value.okWide, Try.underlying42] at hval0
    obtain ⟨cs0, hcs0, _, ts, hts, _, hrow⟩ := hval0
    cases hcs0
    have hts' : Try.prog.cellTypes Try.prog.depth 42 = some [9, 40] := by kernel_rfl
    rw [hts'] at hts; cases hts
    obtain ⟨t1, ht1, hc⟩ := hrow 1 b rfl
    cases ht1
    exact slice_has Try.underlying40 hc
end Go.Proofs.Ytfmiimehobcmaaa
