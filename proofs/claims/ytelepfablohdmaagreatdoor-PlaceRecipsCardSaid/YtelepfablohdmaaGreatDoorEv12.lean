/- The evaluator: append and copy. -/
import Derived.Test.YtelepfablohdmaaGreatDoorEv11
set_option linter.unusedSimpArgs false
set_option linter.unusedVariables false
namespace Go.Ev

variable {P : Program} {base : Nat} {ρ : Ren} {w : World}

/-- what append is to add: n elements, whose cells are new -/
structure Adds (P : Program) (w : World) (size bytes : Nat) (xd : TypeDesc) (z x : Value) (n : Nat) (new : Array Value) : Prop where
  kind : (intD xd = false ∧ (∀ w₁ : World, w₁.heap = w.heap → (Builtin.lenOf x).run P w₁ = .ok n w₁ ∧ (Builtin.firstCells size n x).run P w₁ = .ok new w₁)) ∨
    (intD xd = true ∧ (∃ k, x = .int k n) ∧ n ≤ 1000000 ∧ n * bytes ≤ 1000000000 ∧ new = (if n * size = 0 then #[] else Builtin.zeroCells z.cells n))

section
variable {t xt ty elem : TypeId} {i : TypeInfo} {z x : Value} {xd : TypeDesc} {ts : Array TypeId} {args : Array Value} {b : Option Addr} {sLen sCap n : Nat} {new : Array Value}

theorem run_append_in (hts : ts[0]? = some t) (hxs : ts[1]? = some xt) (ha : args[0]? = some (.slice b sLen sCap)) (hx : args[1]? = some x)
    (ht : P.underlying t = some (.slice elem)) (hxt : P.underlying xt = some xd) (hi : P.info? elem = some i) (hz : i.zero = some z)
    (hadd : Adds P w i.size i.bytes xd z x n new) (hroom : sLen + n ≤ sCap) {w' : World} (hst : ∀ a, b = some a → (storeCells (a.add (sLen * i.size)) new.toList).run P w = .ok () w') (hnil : b = none → w' = w) :
    (Builtin.append_ ts ty args).run P w = .ok (.slice b (sLen + n) sCap) w' := by
  rcases hadd.kind with ⟨hk, hr⟩ | ⟨hk, ⟨k, rfl⟩, h1, h2, hnew⟩
  · obtain ⟨r1, r2⟩ := hr w rfl
    have hm : (xd matches .int _) = false := by cases xd <;> first | rfl | cases hk
    unfold Builtin.append_
    simp only [hts, hxs, ha, hx, Sem.run_bind, run_under ht, run_under hxt, run_size hi, Result.andThen_ok, Sem.run_pure]
    cases xd <;> first
      | (cases hk; done)
      | (simp only [Sem.run_bind, Sem.run_pure, Result.andThen_ok, Bool.false_eq_true, if_false, r1, hroom, if_true, Bool.not_false, r2]
         cases b with
         | none => rw [hnil rfl]; rfl
         | some a => simp only [Sem.run_bind, hst a rfl, Result.andThen_ok, Sem.run_pure])
  · cases xd <;> first
      | (cases hk; done)
      | (rename_i kk
         have wl : IntKind.i64.wrap (n : Int) = n := IntWalk.i64_in _ (by omega)
         have n1 : ¬ (n : Int) < 0 := by omega
         have n2 : ¬ ((n : Int) * (i.bytes : Int) > 2 ^ 48) := by
           have : ((n * i.bytes : Nat) : Int) ≤ 1000000000 := by omega
           rw [Int.natCast_mul] at this
           simp only [Int.reducePow]; omega
         unfold Builtin.append_
         simp only [hts, hxs, ha, hx, Sem.run_bind, run_under ht, run_under hxt, run_size hi, Result.andThen_ok, Sem.run_pure, if_true, asInt, asIntOf, wl, n1, if_false, run_info hi, n2, Int.toNat_natCast, hroom, Bool.not_true, Bool.false_eq_true]
         by_cases h0 : n * i.size = 0
         · rw [if_pos h0] at hnew
           subst hnew
           simp only [h0, if_true, Sem.run_pure, Result.andThen_ok]
           cases b with
           | none => rw [hnil rfl]; rfl
           | some a => simp only [Sem.run_bind, hst a rfl, Result.andThen_ok, Sem.run_pure]
         · rw [if_neg h0] at hnew
           subst hnew
           simp only [h0, if_false, Sem.run_bind, run_zero hi hz, Sem.run_pure, Result.andThen_ok]
           cases b with
           | none => rw [hnil rfl]; rfl
           | some a => simp only [Sem.run_bind, hst a rfl, Result.andThen_ok, Sem.run_pure])

theorem h48_of {need cap bytes : Nat} (hno : ¬ need ≤ cap) (hbytes : (2 * need + 1000) * bytes ≤ 100000000000000) : ¬ (Builtin.nextslicecap need cap * bytes > 2 ^ 48) := by
  have hcap := nextslicecap_le (need := need) (old := cap) (by omega)
  have : Builtin.nextslicecap need cap * bytes ≤ (2 * need + 1000) * bytes := Nat.mul_le_mul_right _ (by omega)
  simp only [Nat.reducePow]; omega
theorem h48_nil {need bytes : Nat} (h0 : 0 < need) (hbytes : need * bytes ≤ 281474976710656) : ¬ (Builtin.nextslicecap need 0 * bytes > 2 ^ 48) := by
  unfold Builtin.nextslicecap
  rw [if_pos (by omega)]
  simp only [Nat.reducePow]; omega

theorem run_append_new (hts : ts[0]? = some t) (hxs : ts[1]? = some xt) (ha : args[0]? = some (.slice b sLen sCap)) (hx : args[1]? = some x)
    (ht : P.underlying t = some (.slice elem)) (hxt : P.underlying xt = some xd) (hi : P.info? elem = some i) (hz : i.zero = some z)
    (hadd : Adds P w i.size i.bytes xd z x n new) (hroom : ¬ sLen + n ≤ sCap) (hbig : sLen + n ≤ 1000000000000000) (h48 : ¬ (Builtin.nextslicecap (sLen + n) sCap * i.bytes > 2 ^ 48)) {old : Array Value} (hold : (Builtin.firstCells i.size sLen (.slice b sLen sCap)).run P w.drew = .ok old w.drew) :
    (Builtin.append_ ts ty args).run P w = .ok (.slice (some ⟨w.heap.size, 0, none⟩) (sLen + n) (grownCap w (sLen + n) sCap elem))
      (w.drew.alloc (.cells (old ++ new ++ Builtin.zeroCells z.cells (grownCap w (sLen + n) sCap elem - (sLen + n))) elem)) := by
  have hmax : IntKind.i64.max = 9223372036854775807 := rfl
  have h63 : ∀ q : Prop, ¬ (((sLen + n : Nat) : Int) > IntKind.i64.max ∧ q) := fun q hq => by rw [hmax] at hq; omega
  rcases hadd.kind with ⟨hk, hr⟩ | ⟨hk, ⟨k, rfl⟩, h1, h2, hnew⟩
  · obtain ⟨r1, _⟩ := hr w rfl
    obtain ⟨_, r2⟩ := hr w.drew rfl
    unfold Builtin.append_
    simp only [hts, hxs, ha, hx, Sem.run_bind, run_under ht, run_under hxt, run_size hi, Result.andThen_ok, Sem.run_pure]
    cases xd <;> first
      | (cases hk; done)
      | (simp only [Sem.run_bind, Sem.run_pure, Result.andThen_ok, Bool.false_eq_true, if_false, r1, hroom, Bool.not_false, if_true, run_info hi, h63, h48, run_choose, Question.forced, run_askRoom, World.drew_eq, hold, r2, run_zero hi hz, newRow, run_newObj]
         rfl)
  · cases xd <;> first
      | (cases hk; done)
      | (rename_i kk
         have wl : IntKind.i64.wrap (n : Int) = n := IntWalk.i64_in _ (by omega)
         have n1 : ¬ (n : Int) < 0 := by omega
         have n2 : ¬ ((n : Int) * (i.bytes : Int) > 2 ^ 48) := by
           have : ((n * i.bytes : Nat) : Int) ≤ 1000000000 := by omega
           rw [Int.natCast_mul] at this
           simp only [Int.reducePow]; omega
         unfold Builtin.append_
         simp only [hts, hxs, ha, hx, Sem.run_bind, run_under ht, run_under hxt, run_size hi, Result.andThen_ok, Sem.run_pure, if_true, asInt, asIntOf, wl, n1, if_false, run_info hi, n2, Int.toNat_natCast, hroom, Bool.not_true, Bool.false_eq_true, h63, h48, run_choose, Question.forced, run_askRoom, World.drew_eq, hold, run_zero hi hz, newRow, run_newObj]
         by_cases h0 : n * i.size = 0
         · rw [if_pos h0] at hnew
           subst hnew
           simp only [h0, if_true, Sem.run_pure, Result.andThen_ok]
           rfl
         · rw [if_neg h0] at hnew
           subst hnew
           simp only [h0, if_false, Sem.run_bind, run_zero hi hz, Sem.run_pure, Result.andThen_ok]
           rfl)
end
end Go.Ev
