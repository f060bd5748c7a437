/-
  Calls that are entered; operations one behind the other.
-/
import Derived.Test.YtlkjdclhgmkndaaCanonJ
namespace Go.Proofs.Ytlkjdclhgmkndaa.Canon
set_option linter.unusedVariables false
set_option linter.unusedSimpArgs false
open Go.RowKit

def ANext.isVal : ANext → Bool
  | .val _ => true
  | .enter _ _ => false

/-- All rows have numbers that were told. -/
def Bd (s : St) : Prop := s.next ≤ 4000000 ∧ ∀ o, s.heap.get o ≠ none → o < s.next
/-- What is new has higher numbers; what is written is told. -/
def Mo (s s' : St) : Prop := s.next ≤ s'.next ∧ s'.mw ≤ s.mw ∧ (Bd s → Bd s' ∧ ∀ o, o < s'.mw → o < s.next → s'.heap.get o = s.heap.get o)

theorem Mo.refl (s : St) : Mo s s := ⟨Nat.le_refl _, Nat.le_refl _, fun h => ⟨h, fun _ _ _ => rfl⟩⟩
theorem Mo.trans {a b c : St} (h : Mo a b) (k : Mo b c) : Mo a c := by
  refine ⟨Nat.le_trans h.1 k.1, Nat.le_trans k.2.1 h.2.1, fun hb => ?_⟩
  obtain ⟨h1, h2⟩ := h.2.2 hb
  obtain ⟨k1, k2⟩ := k.2.2 h1
  refine ⟨k1, fun o h3 h4 => ?_⟩
  have h5 := h.1
  have k5 := k.2.1
  rw [k2 o h3 (by omega), h2 o (by omega) h4]

def Good (s : St) (r : ANext × St) : Prop := r.1.isVal = true ∧ Mo s r.2

theorem Good.val {s : St} {r : ANext × St} (h : Good s r) : r.1.isVal = true := h.1

theorem alloc_mo {s : St} (h : s.next < 4000000) (x : AObj) : Mo s ⟨s.next + 1, s.mw, T.set (some x) deep s.heap s.next⟩ := by
  have hget : ∀ p, (T.set (some x) deep s.heap s.next).get p = if p = s.next then some x else s.heap.get p := fun p => get_set _ _ _ _ _ (by unfold deep; omega)
  refine ⟨by dsimp only; omega, Nat.le_refl _, fun hb => ⟨⟨by dsimp only; omega, fun o ho => ?_⟩, fun o h1 h2 => ?_⟩⟩
  · rw [hget] at ho
    dsimp only
    split at ho
    · omega
    · have := hb.2 o ho; omega
  · rw [hget, if_neg (by omega)]
theorem set_mo {s : St} (x : Option AObj) {b : Nat} (hl : s.heap.get b ≠ none) : Mo s ⟨s.next, Nat.min s.mw b, T.set x deep s.heap b⟩ := by
  refine ⟨Nat.le_refl _, Nat.min_le_left _ _, fun hb => ?_⟩
  have hbl := hb.2 b hl
  have hget : ∀ p, (T.set x deep s.heap b).get p = if p = b then x else s.heap.get p := fun p => get_set _ _ _ _ _ (by have := hb.1; unfold deep; omega)
  refine ⟨⟨hb.1, fun o ho => ?_⟩, fun o h1 h2 => ?_⟩
  · rw [hget] at ho
    split at ho
    · dsimp only; omega
    · exact hb.2 o ho
  · dsimp only at h1
    have : Nat.min s.mw b ≤ b := Nat.min_le_right _ _
    rw [hget, if_neg (by omega)]

theorem alloc_good {e : TypeId} {cells : List Value} {ex : Bool} {s s0 : St} (h0 : Mo s0 s) {mk : Nat → Value} {r : ANext × St}
    (h : alloc e cells ex s (fun id s => some (.val (mk id), s)) = some r) : Good s0 r := by
  have := alloc_inv h
  simp only [Option.some.injEq] at this
  obtain ⟨h1, rfl⟩ := this
  exact ⟨rfl, h0.trans (alloc_mo h1 _)⟩

theorem bif_good {b : Bool} {x : Option (ANext × St)} {s : St} {r : ANext × St} (hx : x = some r → Good s r) (h : (bif b then x else none) = some r) : Good s r := hx (bif_inv h).2
theorem bif_good2 {b : Bool} {x y : Option (ANext × St)} {s : St} {r : ANext × St} (hx : x = some r → Good s r) (hy : y = some r → Good s r) (h : (bif b then x else y) = some r) : Good s r := by
  cases b
  · exact hy h
  · exact hx h
theorem some_good {v : Value} {s : St} {r : ANext × St} (h : some (ANext.val v, s) = some r) : Good s r := by cases h; exact ⟨rfl, .refl _⟩
theorem write_mono {s s2 : St} {a : Addr} {vs : List Value} (h : writeAt s a vs = some s2) : Mo s s2 := by
  unfold writeAt at h
  split at h
  · rename_i o ho
    obtain ⟨_, h⟩ := bif_inv h
    obtain ⟨_, h⟩ := bif_inv h
    split at h
    · simp only [Option.some.injEq] at h; subst h; exact set_mo _ (by rw [ho]; simp)
    · cases h
  · cases h
theorem write_good {v : Value} {s s2 : St} {a : Addr} {vs : List Value} {r : ANext × St} (hw : writeAt s a vs = some s2) (h : some (ANext.val v, s2) = some r) : Good s r := by
  cases h
  exact ⟨rfl, write_mono hw⟩

theorem make_good {e : TypeId} {i : TypeInfo} {z : Value} {bs : Option Addr} {len cap : Nat} {x : Value} {s : St} {r : ANext × St} (h : makeAppend e i z bs len cap x s = some r) : Good s r := by
  unfold makeAppend at h
  split at h
  · exact bif_good (fun h => alloc_good (.refl _) h) h
  · cases h
theorem append_good {P : Program} {e : TypeId} {size bytes : Nat} {bs : Option Addr} {len cap : Nat} {x : Value} {s : St} {r : ANext × St} (h : appendOp P e size bytes bs len cap x s = some r) : Good s r := by
  unfold appendOp at h
  split at h
  · cases h
  · refine bif_good2 (fun h => bif_good some_good h) (fun h => ?_) h
    split at h
    · cases h
    · rw [fNat_eq] at h
      refine bif_good (fun h => ?_) h
      split at h
      · exact bif_good (fun h => bif_good (fun h => alloc_good (.refl _) h) h) h
      · refine bif_good2 (fun h => bif_good (fun h => bif_good (fun h => bif_good (fun h => alloc_good (.refl _) h) h) h) h) (fun h => ?_) h
        refine bif_good2 (fun h => ?_) (fun h => ?_) h
        · split at h
          · rename_i hw; exact write_good hw h
          · cases h
        · split at h
          · rename_i ob old hob hold
            exact bif_good2 (fun h => alloc_good (.refl _) h) (fun h => bif_good (fun h => alloc_good (set_mo none (by rw [hob]; simp)) h) h) h
          · cases h

section
variable {Φ : Fx} {c : Ctx} {D : Nat → Prop} {P : Program} {w : World} {s s' : St}

theorem hop_good {E : Env} {ev : Operand → Value} (o : Oper) {r : ANext × St} (hh : hop E ev o s = some r) :
    Good s r ∨ ∃ cl f0 f first captured, o.op = .call cl ∧ cl.callee = .value f0 ∧ ev f0 = .func (.func f) first captured ∧ r = (.enter f (app first.toList (app (cl.args.toList.map ev) captured.toList)), s) := by
  obtain ⟨dst, op, type, pos, after, guard⟩ := o
  cases op <;> simp only [hop] at hh <;> first | (cases hh; done) | skip
  case alloc t =>
    split at hh
    · exact .inl (bif_good (fun h => alloc_good (.refl _) h) hh)
    · cases hh
  case box t x => exact .inl (alloc_good (.refl _) hh)
  case buildSlice t len parts =>
    split at hh
    · split at hh
      · refine .inl (bif_good (fun h => ?_) hh)
        split at h
        · exact alloc_good (.refl _) h
        · cases h
      · cases hh
    · cases hh
  case load t a =>
    split at hh
    · split at hh
      · exact .inl (some_good hh)
      · cases hh
    · split at hh
      · exact .inl (some_good hh)
      · cases hh
    · cases hh
  case store t a x =>
    split at hh
    · refine .inl (bif_good (fun h => ?_) hh)
      split at h
      · rename_i hw; exact write_good hw h
      · cases h
    · cases hh
  case makeSlice t l cp =>
    split at hh
    · split at hh
      · split at hh
        · exact .inl (bif_good (fun h => alloc_good (.refl _) h) hh)
        · cases hh
      · cases hh
    · cases hh
  case slice t x lo hi mx =>
    split at hh
    · split at hh
      · split at hh
        · exact .inl (some_good hh)
        · cases hh
      · cases hh
    · cases hh
  case convert src dst x =>
    split at hh
    · split at hh
      · exact .inl (alloc_good (.refl _) hh)
      · cases hh
    · split at hh
      · split at hh
        · split at hh
          · exact .inl (some_good hh)
          · cases hh
        · cases hh
      · cases hh
    · refine .inl (bif_good (fun h => ?_) hh)
      split at h
      · cases h
        exact ⟨rfl, Nat.le_refl _, Nat.min_le_left _ _, fun hb => ⟨hb, fun _ _ _ => rfl⟩⟩
      · cases h
    · cases hh
  case call cl =>
    obtain ⟨callee, cargs, argTypes⟩ := cl
    unfold hopCall at hh
    simp only at hh
    split at hh
    · split at hh
      · split at hh
        · split at hh
          · split at hh
            · refine .inl ?_
              exact bif_good2 (fun h => bif_good make_good h) (fun h => bif_good append_good h) hh
            · cases hh
          · cases hh
        · cases hh
      · cases hh
    · split at hh
      · split at hh
        · split at hh
          · refine .inl (bif_good2 some_good (fun h => ?_) hh)
            split at h
            · split at h
              · rename_i hw; exact write_good hw h
              · cases h
            · cases h
          · cases hh
        · cases hh
      · cases hh
    · split at hh
      · split at hh
        · split at hh
          · refine .inl (bif_good2 some_good (fun h => ?_) hh)
            split at h
            · refine bif_good (fun h => ?_) h
              split at h
              · rename_i hw; exact write_good hw h
              · cases h
            · cases h
          · cases hh
        · cases hh
      · cases hh
    · split at hh
      · split at hh
        · exact .inl (bif_good some_good hh)
        · cases hh
      · cases hh
    · rename_i f0
      split at hh
      · rename_i g first captured hg
        cases hh; exact .inr ⟨_, f0, _, _, _, rfl, rfl, hg, rfl⟩
      · cases hh
    · cases hh

theorem hop_enter {E : Env} {ev ev' : Operand → Value} (hE : E.P = P) (hev : ∀ x, VR (zId P) c D (ev x) (ev' x)) (o : Oper) {f : FuncId} {args : List Value}
    (hh : hop E ev o s = some (.enter f args, s')) {fn : Func} (hfn : P.funcs[f]? = some fn) (hb : fn.body.isSome = true) (hname : (fn.name == "runtime.NumGoroutine") = false) :
    s' = s ∧ ∃ args', LR (zId P) c D args args' ∧ (execOp ev' o).run P w = .ok (.enter f args'.toArray) w := by
  rcases hop_good o hh with ⟨h, _⟩ | ⟨cl, f0, g, first, captured, h1, h2, h3, h4⟩
  · cases h
  simp only [Prod.mk.injEq, ANext.enter.injEq] at h4
  obtain ⟨⟨rfl, rfl⟩, rfl⟩ := h4
  obtain ⟨dst, op, type, pos, after, guard⟩ := o
  obtain ⟨callee, cargs, argTypes⟩ := cl
  simp only at h1 h2
  subst h1 h2
  obtain ⟨f', g', r1, r2, r3⟩ := func_inv (h3 ▸ hev f0)
  refine ⟨rfl, f'.toList ++ (cargs.toList.map ev' ++ g'.toList), ?_, ?_⟩
  · rw [app_eq, app_eq]
    exact r2.append ((LR.map_ev hev _).append r3)
  · have e4 : (f'.toList ++ (cargs.toList.map ev' ++ g'.toList)).toArray = f' ++ cargs.map ev' ++ g' := by
      apply Array.toList_inj.1; simp
    rw [e4]
    have hb2 : fn.body.isNone = false := by cases hfb : fn.body with | none => rw [hfb] at hb; cases hb | some _ => rfl
    simp only [execOp, resolve, r1, Deferred.ofValue, Sem.run_bind, Sem.run_pure, Result.andThen_ok, invoke, callFunc, run_program, hfn, hname, hb2, Bool.false_eq_true, if_false]

/-- A call of an entry without a body. -/
theorem hop_ext {E : Env} {ev ev' : Operand → Value} (hE : E.P = P) (hev : ∀ x, VR (zId P) c D (ev x) (ev' x)) (o : Oper) {f : FuncId} {args : List Value}
    (hh : hop E ev o s = some (.enter f args, s')) {fn : Func} {row : Array Value → Sem Value} (hfn : P.funcs[f]? = some fn) (hname : (fn.name == "runtime.NumGoroutine") = false)
    (hb : fn.body.isNone = true) (hn : Extern.findNext fn = none) (he : Extern.find fn = some row) :
    s' = s ∧ ∃ args', LR (zId P) c D args args' ∧ (execOp ev' o).run P w = ((row args'.toArray).run P w).andThen fun v w' => .ok (.value v) w' := by
  rcases hop_good o hh with ⟨h, _⟩ | ⟨cl, f0, g, first, captured, h1, h2, h3, h4⟩
  · cases h
  simp only [Prod.mk.injEq, ANext.enter.injEq] at h4
  obtain ⟨⟨rfl, rfl⟩, rfl⟩ := h4
  obtain ⟨dst, op, type, pos, after, guard⟩ := o
  obtain ⟨callee, cargs, argTypes⟩ := cl
  simp only at h1 h2
  subst h1 h2
  obtain ⟨f', g', r1, r2, r3⟩ := func_inv (h3 ▸ hev f0)
  refine ⟨rfl, f'.toList ++ (cargs.toList.map ev' ++ g'.toList), ?_, ?_⟩
  · rw [app_eq, app_eq]
    exact r2.append ((LR.map_ev hev _).append r3)
  · have e4 : (f'.toList ++ (cargs.toList.map ev' ++ g'.toList)).toArray = f' ++ cargs.map ev' ++ g' := by
      apply Array.toList_inj.1; simp
    rw [e4, ← run_callFunc_extern hfn hname hb hn he]
    simp only [execOp, resolve, r1, Deferred.ofValue, Sem.run_bind, Sem.run_pure, Result.andThen_ok, invoke]
end
end Go.Proofs.Ytlkjdclhgmkndaa.Canon
