/-
  MetroLadderReads returns true for any ladder and sign: Check and Value are the reference's. Conditions: none beyond the form's own.
  How: an evaluator of calls without draws (Ev1 to Ev27, W1 to W10) is right in every world and on every schedule; the functions have contracts in it (L1 to L7, LR).
-/
import Derived.Test.YtemdclffpnejjaaLR
import Derived.Test.YtemdclffpnejjaaB1
set_option linter.unusedSimpArgs false
set_option linter.unusedVariables false
namespace Go.Proofs.Ytemdclffpnejjaa.metroLadderReads
open Go.ChangeShapes Go.WideShapes Go.ChangeAt Go.RowKit
open Go.Ev

theorem own : ownKnob Try.prog.godebug = none := by kernel_rfl
theorem laid : laidOutB Try.prog = true := by kernel_rfl

set_option maxRecDepth 100000 in
theorem lifted (os : Os) (started : os.Started) (H : Type) (enc : TypeId × Value → H) :
    ReturnsInHanded {} Try.checked os 6 .any (Rows.metroLadderReadsSpec.pre6 enc Try.prog Try.f6 Rows.metroLadderReadsRow.domain false) (Rows.metroLadderReadsSpec.post enc Try.prog Try.f6 false true false false) := by
  refine returnsInHanded_of_change_sized (C := Try.checked) own started (by kernel_rfl) Try.func6
    (ChangeSpec.witness6 (enc := enc) (C := Try.checked) false ⟨#[], #[.agg #[.string ByteArray.empty, .slice none 0 0], .string ByteArray.empty], []⟩ 8 (by kernel_rfl) (by kernel_rfl) (by kernel_rfl) (by kernel_rfl)) ?_
  intro W base args ds gs before hval0 hW hcnd hsize _
  have hval : ∀ (j : Nat) t v, Try.f6.params[j]? = some t → args[j]? = some v → Value.okWide Try.prog W .any base t v := hval0
  have hW' := hW
  obtain ⟨p, q, hA0, hV, rfl, hfz, hnd⟩ := hW
  have hA : DataW.TrodAll enc Try.prog W 0 (fun _ => true) true Try.f6.params.toList args.toList ds p := hA0
  rw [Try.params6] at hA hval
  obtain ⟨v0, vs0, d0, ds0, p0, q0, hargs, rfl, rfl, h0, r0⟩ := trodAll_cons hA
  obtain ⟨v1, vs1, d1, ds1, p1, q1, rfl, rfl, rfl, h1, r1⟩ := trodAll_cons r0
  obtain ⟨rfl, rfl, rfl⟩ := trodAll_nil r1
  obtain rfl : args = #[v0, v1] := by cases args; simp_all
  obtain ⟨rfl, rfl⟩ := trodVars_none hV
  have hlt : ∀ x ∈ p0 ++ (p1 ++ []) ++ [], x.block < W.heap.size := fun x hx => by simpa using hW'.lt x hx
  have hval_0 := hval 0 42 v0 rfl rfl
  have hval_1 := hval 1 9 v1 rfl rfl
  obtain ⟨s, rfl⟩ := okWide_string Try.underlying9 hval_1
  have h0' := h0
  obtain ⟨nm, u, m, y, rfl, hu, rfl, rfl, htr⟩ := open_lad h0' hval_0
  have c94 : Try.prog.cellsOf 94 = 2 := by kernel_rfl
  obtain ⟨ρ', v, h', us, st, _, hrel, hin, hok, _, _, _, hbulk⟩ := take_slice (e := 94) (sim_empty Try.prog W) encU_len (by decide) Try.underlying40 c94 plain_encU htr hu
    (fun n cs y hy => unit_sound Try.underlying94 Try.underlying9 Try.underlying3 rfl rfl (by kernel_rfl) (by kernel_rfl) c94 hy)
  have hlen : us.length * 24 ≤ 281474976710656 := by
    rcases hbulk with h | ⟨elems, rest, he, hle⟩
    · rw [h]; decide
    · have hw := List.all_eq_true.1 hsize
      have b94 : Try.prog.bytesOf 94 = 24 := by kernel_rfl
      have hmem : (elems.length + rest.length) * Try.prog.bytesOf 94 ∈ DataW.weightsEach Try.prog (Try.f6.params.toList ++ Rows.metroLadderReadsSpec.plain.varTypes Try.prog) ([.agg [.lit (.string nm.data.toList), y.1], d1] ++ []) := by
        rw [Try.params6, he]
        refine DataW.weights_mem_each (j := 0) rfl rfl _ ?_
        simp [DataW.weights, Try.underlying42, DataW.weightsEach, Try.underlying40]
      have := hw _ hmem
      rw [b94] at this
      have h2 : (elems.length + rest.length) * 24 ≤ reachBytes := by simpa using this
      have h3 : reachBytes = 140737488351232 := rfl
      omega
  have walk : Calls Try.prog 6 #[.agg #[.string nm, u], .string s] W fun e w' => e = .returned (.bool true) ∧ Below W.heap.size W w' :=
    ev_calls (args := [.agg #[.string nm, v], .string s]) (args' := [.agg #[.string nm, u], .string s]) Try.func6 rfl rfl st (.cons (.agg (.cons (.string _) (.cons hrel .nil))) (.cons (.string _) .nil)) (reads_w nm us s v h' hin hok hlen)
  clear hA0 hval0
  refine walk.mono fun e W' ⟨he, bel⟩ => ?_
  subst he
  exact ⟨_, rfl, _, _, _, [], _, [], hW', trodAll_mk1 (shut_bool Try.underlying4 _),
    (trodAll_cons_mk (Below.trod laid (by kernel_rfl) (of_decide_eq_true (by kernel_rfl)) h0 bel (fun x hx => hlt x (by simp [hx]))) (trodAll_cons_mk (Below.trod laid (by kernel_rfl) (of_decide_eq_true (by kernel_rfl)) h1 bel (fun x hx => hlt x (by simp [hx]))) trodAll_mk0)), rfl, bel.frame _, fun h => by cases h⟩

theorem over : Rows.metroLadderReadsRow.holds Try.pinned (OpenSpec.ofChange Rows.metroLadderReadsSpec) :=
  OpenClaim.holds_of_wide 6 Try.f6 rfl rfl rfl rfl rfl rfl rfl ⟨rfl, rfl, rfl, rfl, rfl⟩ rfl rfl rfl rfl rfl (by kernel_rfl) Try.func6 (by kernel_rfl)
    (of_decide_eq_true (by kernel_rfl)) (by unfold Func.isWrapper; first | (rw [if_pos (by decide +kernel)]; kernel_rfl) | (rw [if_neg (by decide +kernel)]; exact ⟨rfl, rfl⟩))
    (fun os started H enc _ => lifted os started H enc)

/-- ████ THE STATEMENT ████ -/
theorem proved : Rows.MetroLadderReadsSaid :=
  over
#print axioms proved
end Go.Proofs.Ytemdclffpnejjaa.metroLadderReads
