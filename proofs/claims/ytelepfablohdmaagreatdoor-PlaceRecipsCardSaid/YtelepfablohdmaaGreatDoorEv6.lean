/- The evaluator: operations that look at no memory, one by one. -/
import Derived.Test.YtelepfablohdmaaGreatDoorEv5
import Derived.ChangeKeysEq
import Derived.Laws.StructEq
import Derived.Laws.Cover3
import Derived.WalkSpells
set_option linter.unusedSimpArgs false
set_option linter.unusedVariables false
namespace Go.Ev

variable {P : Program} {ρ : Ren} {w : World}

theorem pick_sound {c c' a a' b b' v : Value} (h : pickV c a b = some v) (hc : VRel ρ c c') (ha : VRel ρ a a') (hb : VRel ρ b b') :
    GivesN P ρ w (do pure (.value (if ← asBool c' then a' else b'))) v := by
  unfold pickV at h
  split at h
  · cases h; rw [hc.bool_inv]; exact ⟨a', by simp [asBool], ha⟩
  · cases h; rw [hc.bool_inv]; exact ⟨b', by simp [asBool], hb⟩
  · cases h

theorem extract_sound {t t' v : Value} {i : Nat} (h : extractV t i = some v) (ht : VRel ρ t t') : GivesV P ρ w (Instr.extract t' i) v := by
  unfold extractV at h
  split at h
  · obtain ⟨ys, rfl, hr⟩ := ht.tuple_inv
    rw [at?_eq] at h
    obtain ⟨v', h1, h2⟩ := hr.toArray_get h
    exact ⟨v', by simp [Instr.extract, h1], h2⟩
  · cases h

theorem VRel.mkAgg {xs ys : Array Value} (h : VRels ρ xs.toList ys.toList) : VRel ρ (.agg xs) (.agg ys) := .agg h
theorem VRel.mkTuple {xs ys : Array Value} (h : VRels ρ xs.toList ys.toList) : VRel ρ (.tuple xs) (.tuple ys) := .tuple h

theorem part_sound {t : TypeId} {cs cs' : Array Value} {off : Nat} {v : Value} (h : partV P t cs off = some v) (hr : VRels ρ cs.toList cs'.toList) : GivesV P ρ w (part t cs' off) v := by
  unfold partV loadV at h
  split at h
  · rename_i i d hi hd
    split at h
    · rename_i hag
      rw [Option.map_eq_some_iff] at h
      obtain ⟨l, hl, rfl⟩ := h
      obtain ⟨hlen, hget⟩ := cut_get hl
      refine ⟨.agg (cs'.extract off (off + i.size)), by simp [part, run_agg? hd, hag, run_size hi], .mkAgg ?_⟩
      have := VRels.of_get (ρ := ρ) (cs := cs') (off := off) (l := l) fun j u hu => by
        obtain ⟨_, h2⟩ := hget j u hu
        exact hr.toArray_get h2
      rw [hlen] at this
      have e : (cs'.extract off (off + i.size)).toList = (cs'.toList.drop off).take i.size := by
        rw [Array.toList_extract, List.extract_eq_take_drop]
        congr 1; omega
      rw [e]
      exact this
    · rename_i hag
      rw [at?_eq] at h
      obtain ⟨v', h1, h2⟩ := hr.toArray_get h
      exact ⟨v', by simp [part, run_agg? hd, hag, h1], h2⟩
  · cases h

theorem field_sound {t : TypeId} {x x' v : Value} {f : Nat} (h : fieldV P t x f = some v) (hx : VRel ρ x x') : GivesV P ρ w (Instr.field t x' f) v := by
  unfold fieldV at h
  split at h
  · rename_i fields cs hu
    split at h
    · rename_i fd hf
      obtain ⟨ys, rfl, hr⟩ := hx.agg_inv
      obtain ⟨v', h1, h2⟩ := part_sound (w := w) h hr
      exact ⟨v', by simp [Instr.field, run_under hu, hf, asAgg, h1], h2⟩
    · cases h
  · cases h

theorem natOf_eq {v : Value} {n : Nat} (h : natOf v = some n) : ∃ k, v = .int k n := by
  unfold natOf at h
  split at h
  · cases h; exact ⟨_, rfl⟩
  · cases h

theorem ARel.add {a a' : Addr} (h : ARel ρ a a') (n : Nat) : ARel ρ (a.add n) (a'.add n) := by
  obtain ⟨h1, h2, p, hp, h3, h4⟩ := h
  unfold Addr.add
  by_cases hn : n = 0
  · simp only [hn, if_true]; exact ⟨h1, h2, p, hp, h3, h4⟩
  · simp only [hn, if_false]; exact ⟨rfl, rfl, p, hp, h3, by simp only [h4]; omega⟩

theorem fieldPtr_sound {s : TypeId} {x x' v : Value} {f : Nat} (h : fieldPtr P s x f = some v) (hx : VRel ρ x x') : GivesV P ρ w (Instr.fieldAt s x' f) v := by
  unfold fieldPtr at h
  split at h
  · rename_i fields a hu
    split at h
    · rename_i fd hf
      split at h
      · rename_i i hi
        split at h
        · cases h
        · rename_i hz
          cases h
          obtain ⟨a', rfl, ha⟩ := hx.ptr_inv
          exact ⟨.pointer (some (a'.add fd.offset)), by simp [Instr.fieldAt, run_under hu, hf, Instr.sureAddr, fieldPlace, run_size hi, hz], .ptr (ha.add _)⟩
      · cases h
    · cases h
  · cases h

theorem indexPtr_sound {t : TypeId} {x x' ix ix' v : Value} (h : indexPtr P t x ix = some v) (hx : VRel ρ x x') (hix : VRel ρ ix ix') : GivesV P ρ w (Instr.indexAt t x' ix') v := by
  unfold indexPtr at h
  split at h
  · cases h
  · rename_i i hi
    obtain ⟨k, rfl⟩ := natOf_eq hi
    rw [hix.int_inv]
    split at h
    · rename_i len elem a hu
      split at h
      · rename_i e he
        split at h
        · rename_i hlt
          cases h
          obtain ⟨a', rfl, ha⟩ := hx.ptr_inv
          exact ⟨.pointer (some (a'.add (i * e.size))), by simp [Instr.indexAt, asIntOf, run_under hu, Instr.sureAddr, hlt, run_size he], .ptr (ha.add _)⟩
        · cases h
      · cases h
    · rename_i elem a len cap hu
      split at h
      · rename_i e he
        split at h
        · rename_i hlt
          cases h
          cases hx with
          | sl ha hc hn hp hw =>
            rename_i a' c' p
            exact ⟨.pointer (some (a'.add (i * e.size))), by simp [Instr.indexAt, asIntOf, run_under hu, hlt, run_size he], .ptr (ha.add _)⟩
          | sj => exact absurd hlt (Nat.not_lt_zero _)
        · cases h
      · cases h
    · cases h

theorem index_sound {t : TypeId} {x x' ix ix' v : Value} (h : indexV P t x ix = some v) (hx : VRel ρ x x') (hix : VRel ρ ix ix') : GivesV P ρ w (Instr.index t x' ix') v := by
  unfold indexV at h
  split at h
  · cases h
  · rename_i i hi
    obtain ⟨k, rfl⟩ := natOf_eq hi
    rw [hix.int_inv]
    split at h
    · rename_i len elem cs hu
      split at h
      · rename_i e he
        split at h
        · rename_i hlt
          obtain ⟨ys, rfl, hr⟩ := hx.agg_inv
          obtain ⟨v', h1, h2⟩ := part_sound (w := w) h hr
          exact ⟨v', by simp [Instr.index, asIntOf, run_under hu, hlt, run_size he, h1], h2⟩
        · cases h
      · cases h
    · rename_i s hu
      rw [hx.string_inv]
      split at h
      · rename_i b hb
        cases h
        rw [at?_eq] at hb
        have hb' : s.data[i]? = some b := by simpa using hb
        have hs : s[i]? = some b := by
          obtain ⟨hlt, e⟩ := Array.getElem?_eq_some_iff.1 hb'
          exact getElem?_eq_some_iff.2 ⟨hlt, e⟩
        exact ⟨.int .u8 b.toNat, by simp [Instr.index, asIntOf, run_under hu, hs], .int _ _⟩
      · cases h
    · cases h

theorem un_sound {op : UnOp} {x x' v : Value} (h : un op x = some v) (hx : VRel ρ x x') : GivesV P ρ w (Op.unary op x') v := by
  unfold un at h
  split at h
  · rename_i k n
    cases h
    rw [hx.int_inv]
    exact ⟨.int k (k.wrap (0 - n)), by simp only [Op.unary, Op.intArith, Sem.run_pure], by rw [wrapF_eq]; exact .int _ _⟩
  · cases h
    rw [hx.bool_inv]
    exact ⟨_, by simp only [Op.unary, Sem.run_pure], .bool _⟩
  · cases h

theorem conv_sound {s d : TypeId} {x x' v : Value} (h : conv P d x = some v) (hx : VRel ρ x x') (hs : ∃ e, P.underlying s = some e) : GivesV P ρ w (convert s d x') v := by
  obtain ⟨e, he⟩ := hs
  unfold conv at h
  split at h
  · rename_i k _ n hu
    cases h
    rw [hx.int_inv]
    refine ⟨.int k (k.wrap n), ?_, by rw [wrapF_eq]; exact .int _ _⟩
    simp only [convert, Sem.run_bind, run_under he, run_under hu, Result.andThen_ok]
    cases e <;> simp [Conv.intToInt]
  · rename_i s' hu
    cases h
    rw [hx.string_inv]
    refine ⟨.string s', ?_, .string _⟩
    simp only [convert, Sem.run_bind, run_under he, run_under hu, Result.andThen_ok]
    cases e <;> simp
  · cases h

theorem nil_sound {x x' v : Value} (h : nilOk x = some v) (hx : VRel ρ x x') (o : Oper) (y : Operand) (ho : o.op = .nilCheck y) (f : Operand → Value) (hf : f y = x') : GivesN P ρ w (execOp f o) v := by
  unfold nilOk at h
  split at h
  · cases h
    obtain ⟨a', rfl, ha⟩ := hx.ptr_inv
    exact ⟨.pointer (some a'), by simp only [execOp, ho, hf, Sem.run_pure], .ptr ha⟩
  · cases h

/-! ### operators -/
theorem run_eqGuard_other (op : BinOp) (t : TypeId) (x y : Operand) {a b : Value} (h1 : ¬ (a = .nilIface ∧ b = .nilIface)) (h2 : ∀ xs ys, a = .agg xs → b = .agg ys → P.eqGuardType P.depth t = false) : (eqGuard op t x y a b).run P w = .ok () w := by
  unfold eqGuard
  split <;> first
    | rfl
    | (simp only [Bool.not_true, Bool.false_eq_true, if_false]
       split
       · exact absurd ⟨rfl, rfl⟩ h1
       · rename_i xs ys
         simp [h2 xs ys rfl rfl]
       · rfl)

theorem intBin_sound {op : BinOp} {k : IntKind} {a b : Int} {v : Value} (h : (intC op).f k a b = some v) (t : TypeId) : (binOp op t (.int k a) (.int k b)).run P w = .ok v w := by
  unfold intC at h
  cases op <;> simp only at h <;> first
    | (cases h; done)
    | (obtain ⟨hz, h⟩ : isZero b = false ∧ _ := by
        cases hb : isZero b with
        | true => rw [hb] at h; cases h
        | false => rw [hb] at h; exact ⟨rfl, h⟩
       have hb : ¬ b = 0 := by rw [isZero_spec] at hz; simpa using hz
       cases h
       simp [binOp, Op.intDiv, hb, wrapF_eq])
    | (cases h
       simp only [binOp, Op.intArith, Op.intCmp, wrapF_eq, ltI_spec, eqI_spec, ne_eq, not_true_eq_false, if_false, Sem.run_pure]
       first
         | done
         | rfl
         | (have e : decide (a ≤ b) = !decide (b < a) := by rw [Bool.eq_iff_iff]; simp
            rw [e]; done)
         | (have e : decide (a ≥ b) = !decide (a < b) := by rw [Bool.eq_iff_iff]; simp
            rw [e]))

theorem strBin_sound {op : BinOp} {a b : ByteArray} {v : Value} (h : (strC op).f a.data.toList b.data.toList = some v) (t : TypeId) : (binOp op t (.string a) (.string b)).run P w = .ok v w := by
  have ha : a.toList = a.data.toList := ByteArray.toList_eq a
  have hb : b.toList = b.data.toList := ByteArray.toList_eq b
  unfold strC at h
  cases op <;> simp only at h <;> first
    | (cases h; done)
    | (obtain ⟨hz, h⟩ := cond_some h
       cases h
       have hz' : a.size + b.size ≤ 1000000000 := by
         have := Nat.le_of_ble_eq_true hz
         simpa using this
       have hmax : IntKind.i64.max = 9223372036854775807 := rfl
       have hn : ¬ ((a.size + b.size : Nat) : Int) > IntKind.i64.max := by rw [hmax]; omega
       simp only [binOp, Op.stringOp, hn, if_false, Sem.run_pure]
       first | done | rfl)
    | (cases h
       simp only [binOp, Op.stringOp, ha, hb, bytesEq_spec, bytesLt_spec, Sem.run_pure])

theorem cellEq_sound {d : TypeDesc} {t : TypeId} {x x' y y' : Value} {r : Bool} (h : cellEq d x y = some r) (hd : P.underlying t = some d) (hx : VRel ρ x x') (hy : VRel ρ y y') (n : Nat) : (Op.equalIn (n + 1) t x' y').run P w = .ok r w := by
  unfold cellEq at h
  split at h
  · obtain ⟨hk, h⟩ := cond_some h
    cases h
    rw [hx.int_inv, hy.int_inv, kindEq_spec hk, run_equalIn_int w n t _ _ _ _ hd, eqI_spec]; rfl
  · cases h
    rw [hx.string_inv, hy.string_inv, run_equalIn_string w n t _ _ hd, bytesEq_spec, ByteArray.toList_eq, ByteArray.toList_eq]
  · cases h
    rw [hx.bool_inv, hy.bool_inv, run_equalIn_bool' w n t _ _ hd]
  · cases h

theorem fieldsEq_sound {xs ys xs' ys' : Array Value} (hx : VRels ρ xs.toList xs'.toList) (hy : VRels ρ ys.toList ys'.toList) (n : Nat) : ∀ (fs : List Field) (r : Bool), fieldsEq P xs ys fs = some r → (Op.eqFields (n + 1) xs' ys' fs).run P w = .ok r w
  | [], r, h => by cases h; rfl
  | f :: fs, r, h => by
    unfold fieldsEq at h
    split at h
    · cases h
    · rename_i hn
      split at h
      · rename_i d a b hd ha hb
        split at h
        · cases h
        · rename_i hag
          have ha' : xs.toList[f.offset]? = some a := by simpa using ha
          have hb' : ys.toList[f.offset]? = some b := by simpa using hb
          obtain ⟨a', ea, ra⟩ := hx.toArray_get ha'
          obtain ⟨b', eb, rb⟩ := hy.toArray_get hb'
          have pa : (part f.type xs' f.offset).run P w = .ok a' w := by simp [part, run_agg? hd, hag, ea]
          have pb : (part f.type ys' f.offset).run P w = .ok b' w := by simp [part, run_agg? hd, hag, eb]
          simp only [Op.eqFields, ne_eq, hn, not_false_eq_true, if_true, Sem.run_bind, pa, pb, Result.andThen_ok]
          split at h
          · rename_i he
            rw [cellEq_sound he hd ra rb]
            simpa using fieldsEq_sound hx hy n fs r h
          · rename_i he
            cases h
            rw [cellEq_sound he hd ra rb]
            simp
          · cases h
      · cases h

theorem cellsEq_sound {e : TypeId} {d : TypeDesc} (hd : P.underlying e = some d) (hag : aggD d = false) {xs ys : List Value} {xs' ys' : Array Value} (hx : VRels ρ xs xs'.toList) (hy : VRels ρ ys ys'.toList) (m : Nat) : ∀ (n k : Nat) (r : Bool), cellsEq d n (xs.drop k) (ys.drop k) = some r → (Op.eqItems (m + 1) e 1 xs' ys' (List.range' k n)).run P w = .ok r w
  | 0, k, r, h => by cases h; rfl
  | n + 1, k, r, h => by
    cases hxk : xs.drop k with
    | nil => rw [hxk] at h; cases h
    | cons a xs1 =>
      cases hyk : ys.drop k with
      | nil => rw [hxk, hyk] at h; cases h
      | cons b ys1 =>
        have ha' : xs[k]? = some a := by
          have := List.getElem?_drop (xs := xs) (i := k) (j := 0)
          rw [hxk] at this; simpa using this.symm
        have hb' : ys[k]? = some b := by
          have := List.getElem?_drop (xs := ys) (i := k) (j := 0)
          rw [hyk] at this; simpa using this.symm
        have hx1 : xs.drop (k + 1) = xs1 := by rw [← List.drop_drop, hxk]; rfl
        have hy1 : ys.drop (k + 1) = ys1 := by rw [← List.drop_drop, hyk]; rfl
        obtain ⟨a', ea, ra⟩ := hx.toArray_get ha'
        obtain ⟨b', eb, rb⟩ := hy.toArray_get hb'
        have pa : (part e xs' (k * 1)).run P w = .ok a' w := by simp [part, run_agg? hd, hag, ea]
        have pb : (part e ys' (k * 1)).run P w = .ok b' w := by simp [part, run_agg? hd, hag, eb]
        rw [hxk, hyk] at h
        unfold cellsEq at h
        rw [List.range'_succ]
        simp only [Op.eqItems, Sem.run_bind, pa, pb, Result.andThen_ok]
        split at h
        · rename_i he
          rw [cellEq_sound he hd ra rb]
          have := cellsEq_sound hd hag hx hy m n (k + 1) r (by rw [hx1, hy1]; exact h)
          simpa using this
        · rename_i he
          cases h
          rw [cellEq_sound he hd ra rb]
          simp
        · cases h

theorem eqNilPtr (d : Nat) {t e : TypeId} (h : P.underlying t = some (.pointer e)) (b : Option Addr) : (Op.equalIn (d + 1) t (.pointer none) (.pointer b)).run P w = .ok b.isNone w := by
  unfold Op.equalIn
  simp only [Sem.run_bind, run_under h, Result.andThen_ok]
  cases b <;> rfl
theorem eqPtrNil (d : Nat) {t e : TypeId} (h : P.underlying t = some (.pointer e)) (a : Addr) : (Op.equalIn (d + 1) t (.pointer (some a)) (.pointer none)).run P w = .ok false w := by
  unfold Op.equalIn
  simp only [Sem.run_bind, run_under h, Result.andThen_ok]
  rfl
theorem eqNilSlice (d : Nat) {t e : TypeId} (h : P.underlying t = some (.slice e)) (n c : Nat) (b : Option Addr) (m k : Nat) : (Op.equalIn (d + 1) t (.slice none n c) (.slice b m k)).run P w = .ok b.isNone w := by
  unfold Op.equalIn
  simp only [Sem.run_bind, run_under h, Result.andThen_ok]
  cases b <;> rfl
theorem eqSliceNil (d : Nat) {t e : TypeId} (h : P.underlying t = some (.slice e)) (a : Addr) (n c m k : Nat) : (Op.equalIn (d + 1) t (.slice (some a) n c) (.slice none m k)).run P w = .ok false w := by
  unfold Op.equalIn
  simp only [Sem.run_bind, run_under h, Result.andThen_ok]
  rfl
theorem eqNilMap (d : Nat) {t k e : TypeId} (h : P.underlying t = some (.map k e)) (b : Option Nat) : (Op.equalIn (d + 1) t (.map none) (.map b)).run P w = .ok b.isNone w := by
  unfold Op.equalIn
  simp only [Sem.run_bind, run_under h, Result.andThen_ok]
  cases b <;> rfl
theorem eqMapNil (d : Nat) {t k e : TypeId} (h : P.underlying t = some (.map k e)) (a : Nat) : (Op.equalIn (d + 1) t (.map (some a)) (.map none)).run P w = .ok false w := by
  unfold Op.equalIn
  simp only [Sem.run_bind, run_under h, Result.andThen_ok]
  rfl
theorem eqBool (d : Nat) {t : TypeId} (h : P.underlying t = some .bool) (a b : Bool) : (Op.equalIn (d + 1) t (.bool a) (.bool b)).run P w = .ok (a == b) w := run_equalIn_bool w d t a b h

theorem eqNilI (d : Nat) {t : TypeId} {ms : Array (String × TypeId)} (h : P.underlying t = some (.interface ms)) (u : TypeId) (v : Value) : (Op.equalIn (d + 1) t .nilIface (.iface u v)).run P w = .ok false w := by
  unfold Op.equalIn
  simp only [Sem.run_bind, run_under h, Result.andThen_ok]
  rfl
theorem eqINil (d : Nat) {t : TypeId} {ms : Array (String × TypeId)} (h : P.underlying t = some (.interface ms)) (u : TypeId) (v : Value) : (Op.equalIn (d + 1) t (.iface u v) .nilIface).run P w = .ok false w := by
  unfold Op.equalIn
  simp only [Sem.run_bind, run_under h, Result.andThen_ok]
  rfl
theorem eqNilNil (d : Nat) {t : TypeId} {ms : Array (String × TypeId)} (h : P.underlying t = some (.interface ms)) : (Op.equalIn (d + 1) t .nilIface .nilIface).run P w = .ok true w := by
  unfold Op.equalIn
  simp only [Sem.run_bind, run_under h, Result.andThen_ok]
  rfl

theorem ptr_some {b : Option Addr} {y' : Value} (h : VRel ρ (.pointer b) y') : ∃ b', y' = .pointer b' ∧ b'.isNone = b.isNone := by
  cases h with
  | pnil => exact ⟨_, rfl, rfl⟩
  | ptr h => exact ⟨_, rfl, rfl⟩
theorem map_some {b : Option Nat} {y' : Value} (h : VRel ρ (.map b) y') : ∃ b', y' = .map b' ∧ b'.isNone = b.isNone := by
  cases h with
  | mnil => exact ⟨_, rfl, rfl⟩
  | map h => exact ⟨_, rfl, rfl⟩
theorem slice_some {b : Option Addr} {n c : Nat} {y' : Value} (h : VRel ρ (.slice b n c) y') : ∃ b' c', y' = .slice b' n c' ∧ b'.isNone = b.isNone := by
  cases h with
  | snil => exact ⟨_, _, rfl, rfl⟩
  | sl h => exact ⟨_, _, rfl, rfl⟩
  | sj => exact ⟨_, _, rfl, rfl⟩

/-- a value that is compared by its type's own rule -/
def Compared (P : Program) (t : TypeId) (x y : Value) : Prop :=
  ¬ (x = .nilIface ∧ y = .nilIface) ∧ (∀ as bs, x = .agg as → y = .agg bs → P.eqGuardType P.depth t = false) ∧ (∀ k n, x ≠ .int k n) ∧ (∀ s, x ≠ .string s) ∧ (∀ k n, x ≠ .float k n) ∧ (∀ k n m, x ≠ .complex k n m)

theorem valEq_sound {t : TypeId} {x x' y y' : Value} {r : Bool} (h : valEq P t x y = some r) (hx : VRel ρ x x') (hy : VRel ρ y y') :
    (Op.equal t x' y').run P w = .ok r w ∧ Compared P t x' y' := by
  unfold valEq at h
  split at h
  · rename_i fields hu
    split at h
    · rename_i xs ys
      split at h
      · cases h
      · rename_i hg
        obtain ⟨xs', rfl, rx⟩ := hx.agg_inv
        obtain ⟨ys', rfl, ry⟩ := hy.agg_inv
        simp only [Bool.or_eq_true, not_or, Bool.not_eq_true] at hg
        have hf : P.underlying t = some (.struct (P.fieldsOf t)) := by simp [Program.fieldsOf, hu]
        have hfe : P.fieldsOf t = fields := by simp [Program.fieldsOf, hu]
        refine ⟨?_, by simp, fun _ _ _ _ => hg.2, by simp, by simp, by simp, by simp⟩
        show (Op.equalIn (9999 + 1) t (.agg xs') (.agg ys')).run P w = _
        rw [run_equalIn_struct w 9999 t xs' ys' hf hg.1, hfe]
        exact fieldsEq_sound rx ry 9998 _ _ h
    · cases h
  · rename_i e hu
    split at h
    · obtain ⟨b', rfl, hb⟩ := ptr_some hy
      cases h
      rw [hx.pnil_inv, ← hb]
      exact ⟨eqNilPtr 9999 hu _, by simp, by simp, by simp, by simp, by simp, by simp⟩
    · cases h
      obtain ⟨a', rfl, _⟩ := hx.ptr_inv
      rw [hy.pnil_inv]
      exact ⟨eqPtrNil 9999 hu _, by simp, by simp, by simp, by simp, by simp, by simp⟩
    · cases h
  · rename_i e hu
    split at h
    · obtain ⟨a', c', rfl, ha⟩ := slice_some hx
      obtain ⟨b', d', rfl, hb⟩ := slice_some hy
      cases h
      rw [← hb]
      cases a' with
      | some a' => cases ha
      | none => exact ⟨eqNilSlice 9999 hu _ _ _ _ _, by simp, by simp, by simp, by simp, by simp, by simp⟩
    · obtain ⟨a', c', rfl, ha⟩ := slice_some hx
      obtain ⟨b', d', rfl, hb⟩ := slice_some hy
      cases h
      cases a' with
      | none => cases ha
      | some a' =>
        cases b' with
        | some b' => cases hb
        | none => exact ⟨eqSliceNil 9999 hu _ _ _ _ _, by simp, by simp, by simp, by simp, by simp, by simp⟩
    · cases h
  · rename_i k e hu
    split at h
    · obtain ⟨b', rfl, hb⟩ := map_some hy
      cases h
      rw [hx.mnil_inv, ← hb]
      exact ⟨eqNilMap 9999 hu _, by simp, by simp, by simp, by simp, by simp, by simp⟩
    · cases h
      obtain ⟨p, rfl, _⟩ := hx.map_inv
      rw [hy.mnil_inv]
      exact ⟨eqMapNil 9999 hu _, by simp, by simp, by simp, by simp, by simp, by simp⟩
    · cases h
  · rename_i hu
    split at h
    · cases h
      rw [hx.bool_inv, hy.bool_inv]
      exact ⟨eqBool 9999 hu _ _, by simp, by simp, by simp, by simp, by simp, by simp⟩
    · cases h
  · rename_i ms hu
    split at h
    · cases h
      obtain ⟨v', rfl, _⟩ := hy.iface_inv
      rw [hx.nilIface_inv]
      exact ⟨eqNilI 9999 hu _ _, by simp, by simp, by simp, by simp, by simp, by simp⟩
    · cases h
      obtain ⟨v', rfl, _⟩ := hx.iface_inv
      rw [hy.nilIface_inv]
      exact ⟨eqINil 9999 hu _ _, by simp, by simp, by simp, by simp, by simp, by simp⟩
    · cases h
  · rename_i n el hu
    split at h
    · rename_i xs ys
      split at h
      · rename_i d hd
        split at h
        · cases h
        · rename_i hg
          obtain ⟨xs', rfl, rx⟩ := hx.agg_inv
          obtain ⟨ys', rfl, ry⟩ := hy.agg_inv
          simp only [Bool.or_eq_true, not_or, Bool.not_eq_true, Bool.not_eq_false'] at hg
          obtain ⟨⟨⟨g1, g2⟩, g3⟩, g4⟩ := hg
          have hc : P.cellsOf el = 1 := Nat.eq_of_beq_eq_true (by simpa using g3)
          cases hi : P.info? el with
          | none => rw [hi] at g4; cases g4
          | some i =>
            refine ⟨?_, by simp, fun _ _ _ _ => g2, by simp, by simp, by simp, by simp⟩
            show (Op.equalIn (9999 + 1) t (.agg xs') (.agg ys')).run P w = _
            rw [run_equalIn_array w 9999 xs' ys' hu hi, hc, List.range_eq_range']
            exact cellsEq_sound hd g1 rx ry 9998 n 0 _ h
      · cases h
    · cases h
  · cases h

end Go.Ev
