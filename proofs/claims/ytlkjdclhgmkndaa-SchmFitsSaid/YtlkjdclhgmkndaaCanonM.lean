/-
  Operations and calls, one behind the other.
-/
import Derived.Test.YtlkjdclhgmkndaaCanonL
namespace Go.Proofs.Ytlkjdclhgmkndaa.Canon
set_option linter.unusedVariables false
set_option linter.unusedSimpArgs false
open Go.RowKit

/-- What is promised of an entry without a body. -/
def ExtOK (Φ : Fx) (P : Program) (f : FuncId) (args : List Value) (s s' : St) (v : Value) : Prop :=
  s' = s ∧ ∃ fn row, P.funcs[f]? = some fn ∧ fn.body.isNone = true ∧ (fn.name == "runtime.NumGoroutine") = false ∧ Extern.findNext fn = none ∧ Extern.find fn = some row ∧
    ∀ c D w args', HR Φ P c D s.heap w → LR (zId P) c D args args' → ∃ v', VR (zId P) c D v v' ∧ (row args'.toArray).run P w = .ok v' w

/-- What is promised of calls. -/
def CallOK (Φ : Fx) (P : Program) (call : CallF) : Prop := ∀ f args s v s', call f args s = some (v, s') → zId P < s.next →
  Mo s s' ∧ (((∃ fn, P.funcs[f]? = some fn ∧ fn.body.isSome = true ∧ (fn.name == "runtime.NumGoroutine") = false) ∧
  ∀ c D w args', Bd s → HR Φ P c D s.heap w → Glob (zId P) c D → (∀ o, s.next ≤ o → o < s'.next → ¬D o) → LR (zId P) c D args args' →
    Calls P f args'.toArray w fun e w' => ∃ c' v', e = .returned v' ∧ Step Φ P c c' D s.heap s'.heap s.next s'.next s'.mw w w' ∧ VR (zId P) c' (Dm D s.next s'.next) v v') ∨ ExtOK Φ P f args s s' v)

section
variable {Φ : Fx} {P : Program} {E : Env} {call : CallF}

theorem doOp_mono (hc : CallOK Φ P call) {ev : Operand → Value} {o : Oper} {s s' : St} {v : Value} (h : doOp E call ev o s = some (v, s')) (hZ : zId P < s.next) : Mo s s' := by
  unfold doOp at h
  split at h
  · rename_i v1 s1 hh
    simp only [Option.some.injEq, Prod.mk.injEq] at h
    obtain ⟨rfl, rfl⟩ := h
    rcases hop_good o hh with ⟨_, h1⟩ | ⟨cl, f0, g, first, captured, _, _, _, h4⟩
    · exact h1
    · cases h4
  · rename_i f args s1 hh
    rcases hop_good o hh with ⟨h0, _⟩ | ⟨cl, f0, g, first, captured, _, _, _, h4⟩
    · cases h0
    · simp only [Prod.mk.injEq, ANext.enter.injEq] at h4
      obtain ⟨_, rfl⟩ := h4
      exact (hc _ _ _ _ _ h hZ).1
  · cases h

theorem doOp_sound (hE : E.P = P) (hc : CallOK Φ P call) {ev : Operand → Value} {o : Oper} {s s' : St} {v : Value} (h : doOp E call ev o s = some (v, s')) (hZ : zId P < s.next)
    {c : Ctx} {D : Nat → Prop} {w : World} {ev' : Operand → Value} (hB : Bd s) (hH : HR Φ P c D s.heap w) (hG : Glob (zId P) c D) (hf : ∀ o, s.next ≤ o → o < s'.next → ¬D o)
    (hev : ∀ x, VR (zId P) c D (ev x) (ev' x)) {a : Act} {next : Act → World → Prop} {Q : Exit → Act → World → Prop} (ha : execOp a.eval o = execOp ev' o)
    (hK : ∀ c' v' w', Step Φ P c c' D s.heap s'.heap s.next s'.next s'.mw w w' → VR (zId P) c' (Dm D s.next s'.next) v v' → next (a.put o.dst v') w') : o.wp P a w next Q := by
  unfold Oper.wp
  rw [ha]
  unfold doOp at h
  split at h
  · rename_i v1 s1 hh
    simp only [Option.some.injEq, Prod.mk.injEq] at h
    obtain ⟨rfl, rfl⟩ := h
    obtain ⟨_, c', v', w', e1, e2, e3⟩ := hop_val hE hH hZ hf hev o hh
    rcases e1 with e1 | ⟨e1, rfl⟩
    · rw [e1]; exact hK c' v' w' e2 e3
    · rw [e1]; exact hK c' undef w' e2 e3
  · rename_i f args s1 hh
    rcases hop_good o hh with ⟨h0, _⟩ | ⟨cl, f0, g, first, captured, _, _, _, h4⟩
    · cases h0
    · have h5 := h4
      simp only [Prod.mk.injEq, ANext.enter.injEq] at h4
      obtain ⟨_, rfl⟩ := h4
      obtain ⟨h1, ⟨⟨fn, h6, h7, h8⟩, h9⟩ | ⟨rfl, fn, row, h6, h7, h8, h9, h10, h11⟩⟩ := hc _ _ _ _ _ h hZ
      · obtain ⟨_, args', r1, r2⟩ := hop_enter (w := w) hE hev o hh h6 h7 h8
        rw [r2]
        refine (h9 c D w args' hB hH hG hf r1).mono fun e w' hp => ?_
        obtain ⟨c', v', rfl, k1, k2⟩ := hp
        exact hK c' v' w' k1 k2
      · obtain ⟨_, args', r1, r2⟩ := hop_ext (w := w) hE hev o hh h6 h8 h7 h9 h10
        obtain ⟨v', k1, k2⟩ := h11 c D w args' hH r1
        rw [r2, k2]
        exact hK c v' w (.refl hH) (by rw [Dm.nil]; exact k1)
  · cases h

/-- A state that stands at a place of the runner. -/
theorem fresh_sub {D : Nat → Prop} {a b c : Nat} (hf : ∀ o, a ≤ o → o < c → ¬D o) (h1 : a ≤ b) (h2 : b ≤ c) : (∀ o, a ≤ o → o < b → ¬D o) ∧ ∀ o, b ≤ o → o < c → ¬Dm D a b o :=
  ⟨fun o h3 h4 => hf o h3 (by omega), fun o h3 h4 h5 => by
    rcases h5 with h5 | h5
    · exact hf o (by omega) h4 h5
    · omega⟩

theorem runOps_mono (hc : CallOK Φ P call) {ops : List Oper} : ∀ (rest : List Oper) (tm tm' : List Value) (s s' : St), runOps E call ops rest tm s = some (tm', s') → zId P < s.next → Mo s s'
  | [], tm, tm', s, s', h, hZ => by
    simp only [runOps, Option.some.injEq, Prod.mk.injEq] at h
    obtain ⟨_, rfl⟩ := h
    exact .refl _
  | o :: rest, tm, tm', s, s', h, hZ => by
    unfold runOps at h
    cases hw : wanted ops tm o with
    | false =>
      rw [hw, cond_false] at h
      exact runOps_mono hc rest _ _ _ _ h hZ
    | true =>
      rw [hw, cond_true] at h
      split at h
      · rw [fVal_eq] at h
        exact runOps_mono hc rest _ _ _ _ h hZ
      · split at h
        · rename_i v s1 hd
          rw [fVal_eq] at h
          have h1 := doOp_mono hc hd hZ
          exact h1.trans (runOps_mono hc rest _ _ _ _ h (by have := h1.1; omega))
        · cases h

theorem runOps_sound (hE : E.P = P) (hc : CallOK Φ P call) {ops : Array Oper} (hok : opsOK (zId P) ops.toList = true) {Q : Exit → Act → World → Prop} :
    ∀ (rest : List Oper) (i : Nat) (tm tm' : List Value) (s s' : St), (∀ j, rest[j]? = ops[i + j]?) → runOps E call ops.toList rest tm s = some (tm', s') → zId P < s.next →
    ∀ (c : Ctx) (D : Nat → Prop) (w : World) (a : Act), Bd s → HR Φ P c D s.heap w → Glob (zId P) c D → (∀ o, s.next ≤ o → o < s'.next → ¬D o) → LR (zId P) c D tm a.tmps.toList →
    (∀ c' a' w', Step Φ P c c' D s.heap s'.heap s.next s'.next s'.mw w w' → LR (zId P) c' (Dm D s.next s'.next) tm' a'.tmps.toList → a'.defers = a.defers → Q .normal a' w') →
    wpOps P ops Q (List.range' i rest.length) a w
  | [], i, tm, tm', s, s', hj, h, hZ, c, D, w, a, hB, hH, hG, hf, hT, hQ => by
    simp only [runOps, Option.some.injEq, Prod.mk.injEq] at h
    obtain ⟨rfl, rfl⟩ := h
    exact hQ c a w (.refl hH) (by rw [Dm.nil]; exact hT) rfl
  | o :: rest, i, tm, tm', s, s', hj, h, hZ, c, D, w, a, hB, hH, hG, hf, hT, hQ => by
    have hi : ops[i]? = some o := by have := hj 0; simpa using this.symm
    have hj' : ∀ j, rest[j]? = ops[i + 1 + j]? := fun j => by have := hj (j + 1); rw [List.getElem?_cons_succ] at this; rw [this]; congr 1; omega
    have hoo : opOK (zId P) o = true := by
      unfold opsOK at hok
      rw [allL_eq] at hok
      exact hok o (by rw [Array.mem_toList_iff]; exact Array.mem_of_getElem? hi)
    unfold runOps at h
    rw [List.length_cons, List.range'_succ, wpOps, hi]
    simp only
    rw [← wanted_eq hT ops o]
    cases hw : wanted ops.toList tm o with
    | false =>
      rw [hw, cond_false] at h
      rw [if_neg (by simp)]
      refine runOps_sound hE hc hok rest (i + 1) _ _ _ _ hj' h hZ c D w _ hB hH hG hf (hT.put .undef _) fun c' a' w' h1 h2 h3 => hQ c' a' w' h1 h2 ?_
      rw [h3]; cases o.dst <;> rfl
    | true =>
      rw [hw, cond_true] at h
      rw [if_pos rfl]
      refine .inl ?_
      rw [hE] at h
      split at h
      · rename_i v hp
        rw [fVal_eq] at h
        obtain ⟨v', k1, k2⟩ := pop_sound (ev1_rel hT hG) o v hp
        unfold Oper.wp
        rw [ev1_op hoo, k2 w]
        refine runOps_sound hE hc hok rest (i + 1) _ _ _ _ hj' h hZ c D w _ hB hH hG hf (hT.put k1 _) fun c' a' w' h1 h2 h3 => hQ c' a' w' h1 h2 ?_
        rw [h3]; cases o.dst <;> rfl
      · split at h
        · rename_i v s1 hd
          rw [fVal_eq] at h
          obtain ⟨m1, m2, mb⟩ := doOp_mono hc hd hZ
          obtain ⟨m3, m4, _⟩ := runOps_mono hc rest _ _ _ _ h (by omega)
          obtain ⟨f1, f2⟩ := fresh_sub hf m1 m3
          refine doOp_sound hE hc hd hZ hB hH hG f1 (ev1_rel hT hG) (ev1_op hoo) fun c1 v1 w1 st1 hv1 => ?_
          refine runOps_sound hE hc hok rest (i + 1) _ _ _ _ hj' h (by omega) c1 (Dm D s.next s1.next) w1 _ (mb hB).1 st1.hr (hG.step st1 hZ) f2 ((hT.mono (fun o ho => st1.agree o fun ⟨h5, h6⟩ => f1 o h5 h6 ho) (fun o ho => .inl ho)).put hv1 _) fun c' a' w' h1 h2 h3 => hQ c' a' w' ?_ ?_ ?_
          · exact (st1.weaken m4).trans (fun o ho hoo => hf o hoo.1 hoo.2 ho) hH h1
          · rw [Dm.trans m1 m3] at h2; exact h2
          · rw [h3]; cases o.dst <;> rfl
        · cases h
end
end Go.Proofs.Ytlkjdclhgmkndaa.Canon
