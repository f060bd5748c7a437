/-
  Operations one behind the other.
-/
import Derived.Test.YtlkjdclhgmkndaaCanonK
namespace Go.Proofs.Ytlkjdclhgmkndaa.Canon
set_option linter.unusedVariables false
set_option linter.unusedSimpArgs false
open Go.RowKit

structure EnvOK (Φ : Fx) (E : Env) : Prop where
  fn : ∀ f fn, E.fn f = some fn → E.P.funcs[f]? = some fn
  name : ∀ f fn, E.fn f = some fn → (fn.name == "runtime.NumGoroutine") = false
  mixed : E.P.follows .mixedOrders = true
  known : ∀ f, E.known f = true → ∀ w, Calls E.P f #[] w fun e w' => e = .returned (.bool true) ∧ Below w.heap.size w w'
  orc : ∀ f args v, E.orc f args = some v → ∀ (c : Ctx) (D : Nat → Prop) (w : World) (args' : List Value), Below Φ.w0.heap.size Φ.w0 w → (∀ o, 5000000 ≤ o → c.x o = Φ.nm o) → LR (zId E.P) c D args args' →
    Calls E.P f args'.toArray w fun e w' => ∃ v', e = .returned v' ∧ VR (zId E.P) c D v v' ∧ Below w.heap.size w w'

/-- The numbers told, and those of a step. -/
def Dm (D : Nat → Prop) (n n' : Nat) : Nat → Prop := fun o => D o ∨ (n ≤ o ∧ o < n')

theorem Dm.nil (D : Nat → Prop) (n : Nat) : Dm D n n = D := dom_nil D n
theorem Dm.trans {D : Nat → Prop} {a b c : Nat} (h1 : a ≤ b) (h2 : b ≤ c) : Dm (Dm D a b) b c = Dm D a c := by
  funext o; apply propext; unfold Dm; constructor
  · rintro ((h | h) | h)
    · exact .inl h
    · exact .inr ⟨h.1, by omega⟩
    · exact .inr ⟨by omega, h.2⟩
  · rintro (h | h)
    · exact .inl (.inl h)
    · by_cases ho : o < b
      · exact .inl (.inr ⟨h.1, ho⟩)
      · exact .inr ⟨by omega, h.2⟩

/-- Package variables stand for themselves. -/
def Glob (Z : Nat) (c : Ctx) (D : Nat → Prop) : Prop := ∀ g, g < Z → D g ∧ c.ρ g = g

theorem Glob.step {Φ : Fx} {P : Program} {c c' : Ctx} {D : Nat → Prop} {H H' : T AObj} {n n' m : Nat} {w w' : World} (h : Glob (zId P) c D) (k : Step Φ P c c' D H H' n n' m w w') (hn : zId P < n) : Glob (zId P) c' (Dm D n n') :=
  fun g hg => ⟨.inl (h g hg).1, by rw [(k.agree g (by omega)).1]; exact (h g hg).2⟩

section
variable {Z : Nat} {c c' : Ctx} {D : Nat → Prop}

theorem VR.of_ground2 {v : Value} (g : Canon.ground2 v = true) : VR Z c D v v := by
  cases v <;> first | exact .of_ground (by simpa [Canon.ground2] using g) | skip
  case tuple cs =>
    have g' : ∀ x ∈ cs.toList, Canon.ground x = true := by rw [← allL_eq]; simpa [Canon.ground2] using g
    refine .tuple _ _ rfl fun i v v' h1 h2 => ?_
    rw [h1] at h2; simp only [Option.some.injEq] at h2; subst h2
    exact .of_ground (g' v (List.mem_of_getElem? h1))

/-- What an operand is, where what it names is known. -/
def ev1 (Z : Nat) (a : Act) : Operand → Value
  | .const v => bif Canon.ground2 v then v else undef
  | .global g => bif Nat.blt g Z then .pointer (some ⟨g, 0, none⟩) else undef
  | x => a.eval x

theorem ev1_rel {tm : List Value} {a : Act} (h : LR Z c D tm a.tmps.toList) (hg : Glob Z c D) (x : Operand) : VR Z c D (aeval Z tm x) (ev1 Z a x) := by
  cases x with
  | tmp t =>
    simp only [aeval, ev1, Act.eval, nth_eq]
    cases ht : tm[t]? with
    | none =>
      have : a.tmps.toList[t]? = none := by rw [List.getElem?_eq_none]; rw [← h.1]; exact List.getElem?_eq_none_iff.1 ht
      have : a.tmps.getD t undef = undef := by
        rw [Array.getElem?_toList] at this
        simp [this]
      rw [this]; exact .undef
    | some v =>
      obtain ⟨v', h1, h2⟩ := h.at ht
      have : a.tmps.getD t undef = v' := by
        rw [Array.getElem?_toList] at h1
        simp [h1]
      rw [this]; exact h2
  | const v =>
    simp only [aeval, ev1]
    cases hv : Canon.ground2 v
    · exact .undef
    · exact .of_ground2 hv
  | global g =>
    simp only [aeval, ev1]
    cases hv : Nat.blt g Z with
    | false => exact .undef
    | true =>
      rw [Nat.blt_eq] at hv
      have := VR.ptr (Z := Z) (c := c) (D := D) g 0 (hg g hv).1
      rw [(hg g hv).2] at this
      exact this
  | func f => exact .func _ _ _ _ _ rfl rfl (fun i v v' h => by simp at h) (fun i v v' h => by simp at h)

theorem ev1_eq {a : Act} {x : Operand} (h : opdOK Z x = true) : ev1 Z a x = a.eval x := by
  cases x with
  | const v => simp only [opdOK] at h; simp [ev1, Act.eval, h]
  | global g => simp only [opdOK] at h; simp [ev1, Act.eval, h]
  | _ => rfl

theorem ev1_op {a : Act} {o : Oper} (h : opOK Z o = true) : execOp a.eval o = execOp (ev1 Z a) o := by
  unfold opOK at h
  rw [Bool.and_eq_true, allL_eq] at h
  refine execOp_congr o (fun cs b e => ?_) fun x hx => (ev1_eq (h.2 x (by simpa using hx))).symm
  rw [e] at h; cases h.1

theorem LR.put {tm : List Value} {a : Act} (h : LR Z c D tm a.tmps.toList) {v v' : Value} (hv : VR Z c D v v') (d : Option Tmp) : LR Z c D (putT tm d v) (a.put d v').tmps.toList := by
  cases d with
  | none => exact h
  | some d =>
    simp only [putT, Act.put, setNth_eq, Array.toList_setIfInBounds]
    exact h.set d hv

theorem wanted_eq {tm : List Value} {a : Act} (h : LR Z c D tm a.tmps.toList) (ops : Array Oper) (o : Oper) : wanted ops.toList tm o = Region.wanted o (yielded ops a.tmps) := by
  unfold wanted Region.wanted
  cases o.guard with
  | none => rfl
  | some jw =>
    obtain ⟨j, want⟩ := jw
    simp only
    unfold dstOf yielded
    rw [nth_eq, Array.getElem?_toList]
    cases hj : ops[j]? with
    | none => simp
    | some oj =>
      simp only [Option.bind]
      cases oj.dst with
      | none => simp
      | some d =>
        simp only [nth_eq]
        cases hd : tm[d]? with
        | none =>
          have : a.tmps.toList[d]? = none := by rw [List.getElem?_eq_none]; rw [← h.1]; exact List.getElem?_eq_none_iff.1 hd
          rw [Array.getElem?_toList] at this
          rw [this]; rfl
        | some v =>
          obtain ⟨v', h1, h2⟩ := h.at hd
          rw [Array.getElem?_toList] at h1
          rw [h1]
          cases h2 with
          | bool b => cases b <;> cases want <;> rfl
          | nsl k h => rcases nslV_is (c.x (6000000 + 4 * k)) (c.x (6000000 + 4 * k + 1)) (c.x (6000000 + 4 * k + 2)) (c.x (6000000 + 4 * k + 3)) with e | e <;> rw [e] <;> rfl
          | _ => rfl
end
end Go.Proofs.Ytlkjdclhgmkndaa.Canon
