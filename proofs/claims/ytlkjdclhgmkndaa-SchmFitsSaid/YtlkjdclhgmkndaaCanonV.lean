/-
  What the runner answers, said of the model.
-/
import Derived.Test.YtlkjdclhgmkndaaCanonU
namespace Go.Proofs.Ytlkjdclhgmkndaa.Canon
set_option linter.unusedVariables false
set_option linter.unusedSimpArgs false
open Go.RowKit
section
variable {Φ : Fx} {P : Program} {E : Env}

/-- Such a function is Go text. -/
def hasBody (P : Program) (f : FuncId) : Bool := match P.funcs[f]? with | some fn => fn.body.isSome | none => false

/-- What the runner answers without an address, called with such values, the model answers, in whatever memory, on whatever tape. -/
theorem closed_to (hE : E.P = P) (hEo : ∀ Φ, EnvOK Φ E) (hz : base P < 4000000) {d : Nat} {f : FuncId} (hbody : hasBody P f = true) {args args' : List Value} {v : Value} {s' : St}
    (h : callN E d f args ⟨base P, base P, .leaf⟩ = some (v, s')) (ha : ∀ c, LR (zId P) c (fun o => o < zId P) args args') (hv : ground2 v = true) (w : World) :
    Calls P f args'.toArray w fun e w' => e = .returned v ∧ Below w.heap.size w w' := by
  have hZ : zId P < base P := by unfold zId base; omega
  obtain ⟨m1, ⟨_, k1⟩ | ⟨_, fn, row, h6, h7, _⟩⟩ := callN_sound (Φ := ⟨w, fun _ => 0⟩) hE (hEo _) d f args _ v s' h hZ
  rotate_left
  · exfalso
    unfold hasBody at hbody
    rw [h6] at hbody
    simp only at hbody
    cases hf : fn.body with
    | none => rw [hf] at hbody; cases hbody
    | some _ => rw [hf] at h7; cases h7
  let c : Ctx := ⟨fun o => o, fun _ => 0⟩
  let D : Nat → Prop := fun o => o < zId P
  have hH : HR ⟨w, fun _ => 0⟩ P c D (T.leaf : T AObj) w := ⟨fun o ho => absurd (get_leaf o) ho, fun o obj ho => (by rw [get_leaf] at ho; cases ho), fun o o' ho => absurd (get_leaf o) ho, Below.refl _ _, fun o ho => absurd (get_leaf o) ho, fun _ _ => rfl⟩
  have hB : Bd ⟨base P, base P, .leaf⟩ := ⟨by dsimp only; omega, fun o ho => absurd (get_leaf o) ho⟩
  refine (k1 c D w args' hB hH (fun g hg => ⟨hg, rfl⟩) (fun o h1 _ h2 => by dsimp only at h1; have h2' : o < zId P := h2; omega) (ha c)).mono fun e w' hp => ?_
  obtain ⟨c', v', rfl, st, hvv⟩ := hp
  refine ⟨by rw [hvv.ground2 hv], ⟨st.os, st.tape, st.output, st.size, fun b hb => st.far b hb fun ⟨o, _, h2, _⟩ => absurd (get_leaf o) h2⟩⟩

/-- Where a run starts. -/
def start (P : Program) : St := ⟨base P, base P, .leaf⟩
def isTrue : Option (Value × St) → Bool
  | some (.bool b, _) => b
  | _ => false
theorem isTrue_some {r : Option (Value × St)} (h : isTrue r = true) : ∃ s', r = some (.bool true, s') := by
  unfold isTrue at h
  split at h
  · rename_i b s; exact ⟨s, by rw [h]⟩
  · cases h

/-- The program, looked up. -/
def envOf (P : Program) : Env := ⟨P, fun f => P.funcs[f]?, fun _ => false, fun _ _ => none⟩
/-- .. where function a is known to answer true. -/
def envK (P : Program) (a : FuncId) : Env := ⟨P, fun f => P.funcs[f]?, fun f => Nat.beq f a, fun _ _ => none⟩

/-- No function of the program is the one whose answer nobody knows. -/
def namesOK : List Func → Bool
  | [] => true
  | f :: l => bif f.name == "runtime.NumGoroutine" then false else namesOK l
theorem namesOK_spec : ∀ {l : List Func}, namesOK l = true → ∀ f ∈ l, (f.name == "runtime.NumGoroutine") = false
  | f :: l, h, g, hg => by
    unfold namesOK at h
    cases hf : f.name == "runtime.NumGoroutine" with
    | true => rw [hf, cond_true] at h; cases h
    | false =>
      rw [hf, cond_false] at h
      rcases List.mem_cons.1 hg with rfl | hg
      · exact hf
      · exact namesOK_spec h g hg

/-- What is asked of a program. -/
structure Fit (P : Program) : Prop where
  names : namesOK P.funcs.toList = true
  mixed : P.follows .mixedOrders = true
  small : Nat.blt (base P) 4000000 = true

theorem Fit.env (h : Fit P) (Φ : Fx) : EnvOK Φ (envOf P) :=
  ⟨fun f fn hf => hf, fun f fn hf => namesOK_spec h.names fn (List.mem_of_getElem? (by rw [Array.getElem?_toList]; exact hf)), h.mixed, fun f hf => (by cases hf), fun f args v ho => (by cases ho)⟩

/-- A function without an argument that answers true. -/
def Plain (P : Program) (a : FuncId) : Prop := ∀ w, Calls P a #[] w fun e w' => e = .returned (.bool true) ∧ Below w.heap.size w w'

theorem Fit.envK (h : Fit P) {a : FuncId} (ha : Plain P a) (Φ : Fx) : EnvOK Φ (envK P a) :=
  ⟨fun f fn hf => hf, fun f fn hf => namesOK_spec h.names fn (List.mem_of_getElem? (by rw [Array.getElem?_toList]; exact hf)), h.mixed, fun f hf => by
    have e : f = a := Nat.eq_of_beq_eq_true hf
    subst e
    exact ha, fun f args v ho => by cases ho⟩

/-- A call without an argument that the runner answers with true. -/
theorem Fit.plain (h : Fit P) {d : Nat} {f : FuncId} (hb : hasBody P f = true) (ht : isTrue (callN (envOf P) d f [] (start P)) = true) (w : World) :
    Calls P f #[] w fun e w' => e = .returned (.bool true) ∧ Below w.heap.size w w' := by
  obtain ⟨s', hs⟩ := isTrue_some ht
  have hz : base P < 4000000 := by have := h.small; rwa [nblt, decide_eq_true_eq] at this
  exact closed_to (P := P) (E := envOf P) rfl h.env hz hb hs (fun c => LR.nil) rfl w

/-- The row k of l of a call with one number. -/
def RowOK (P : Program) (d : Nat) (f : FuncId) (l k : Nat) : Prop := isTrue (callN (envOf P) d f [.complex .f64 l k] (start P)) = true
theorem none_ok {p : Nat → Prop} : ∀ k, k < 0 → p k := fun k h => absurd h (Nat.not_lt_zero k)
theorem next_ok {p : Nat → Prop} {n : Nat} (h : ∀ k, k < n → p k) (hn : p n) : ∀ k, k < n + 1 → p k := fun k hk => by
  rcases Nat.lt_or_ge k n with h1 | h1
  · exact h k h1
  · rw [show k = n by omega]; exact hn

/-- A call with one number, of which nothing is asked but which row of l its last eight bits name. -/
theorem Fit.form (h : Fit P) {d : Nat} {f : FuncId} (hb : hasBody P f = true) (l : Nat) (hl : 0 < l) (ht : ∀ k, k < l → RowOK P d f l k) (a : Int) (w : World) :
    Calls P f #[.int .i64 a] w fun e w' => e = .returned (.bool true) ∧ Below w.heap.size w w' := by
  have hk : a % 256 % (l : Int) = ((a % 256 % (l : Int)).toNat : Int) := by
    have : 0 ≤ a % 256 % (l : Int) := Int.emod_nonneg _ (by omega)
    omega
  have hlt : (a % 256 % (l : Int)).toNat < l := by
    have := Int.emod_lt_of_pos (a % 256) (b := (l : Int)) (by omega)
    omega
  obtain ⟨s', hs⟩ := isTrue_some (ht _ hlt)
  have hz : base P < 4000000 := by have := h.small; rwa [nblt, decide_eq_true_eq] at this
  exact closed_to (P := P) (E := envOf P) rfl h.env hz hb hs (fun c => LR.cons (.symA l _ a hk) LR.nil) rfl w

/-- What is left of a number's last eight bits when l share them. -/
theorem sym_int (a : Int) (l : Nat) (hl : 0 < l) : ∃ k, k < l ∧ ∀ Z c D, VR Z c D (.complex .f64 l k) (.int .i64 a) := by
  have h0 : 0 ≤ a % 256 % (l : Int) := Int.emod_nonneg _ (by omega)
  have h1 : a % 256 % (l : Int) < (l : Int) := Int.emod_lt_of_pos _ (by omega)
  exact ⟨(a % 256 % (l : Int)).toNat, by omega, fun Z c D => .symA l _ a (by omega)⟩

/-- A call with what such values stand for. -/
theorem Fit.args (h : Fit P) {d : Nat} {f : FuncId} (hb : hasBody P f = true) {args args' : List Value} (ha : ∀ c, LR (zId P) c (fun o => o < zId P) args args')
    (ht : isTrue (callN (envOf P) d f args (Canon.start P)) = true) (w : World) : Calls P f args'.toArray w fun e w' => e = .returned (.bool true) ∧ Below w.heap.size w w' := by
  obtain ⟨s', hs⟩ := isTrue_some ht
  have hz : base P < 4000000 := by have := h.small; rwa [nblt, decide_eq_true_eq] at this
  exact closed_to (P := P) (E := envOf P) rfl h.env hz hb hs ha rfl w

theorem Fit.small' (h : Fit P) : base P < 4000000 := by have := h.small; rwa [nblt, decide_eq_true_eq] at this

/-- .. with a function that is known. -/
theorem Fit.argsK (h : Fit P) {a : FuncId} (hk : Plain P a) {d : Nat} {f : FuncId} (hb : hasBody P f = true) {args args' : List Value} (ha : ∀ c, LR (zId P) c (fun o => o < zId P) args args')
    (ht : isTrue (callN (Canon.envK P a) d f args (Canon.start P)) = true) (w : World) : Calls P f args'.toArray w fun e w' => e = .returned (.bool true) ∧ Below w.heap.size w w' := by
  obtain ⟨s', hs⟩ := isTrue_some ht
  exact closed_to (P := P) (E := Canon.envK P a) rfl (h.envK hk) h.small' hb hs ha rfl w

/-! Numbers that bear a name. -/
def symCtx (vals : Nat → Nat) : Ctx := ⟨fun o => o, fun o => if 5000000 ≤ o then vals (o - 5000000) else 0⟩
def symDom (P : Program) (o : Nat) : Prop := o < zId P ∨ 5000000 ≤ o

theorem sym_named {P : Program} {vals : Nat → Nat} {id k : Nat} {lo hi n : Int} (hv : (vals id : Int) = n + 9223372036854775808) (hk : kId k = id ∧ kLo k = lo ∧ kHi k = hi ∧ kA k = 1 ∧ kB k = 0) (h : lo ≤ n ∧ n ≤ hi) :
    VR (zId P) (symCtx vals) (symDom P) (.chan (some k)) (.int .i64 n) := by
  obtain ⟨h1, h2, h3, h4, h5⟩ := hk
  refine .symC k n n (.inr (by omega)) ?_ (by rw [h2, h3]; exact h) (by rw [h4, h5]; omega)
  rw [h1]
  show ((if 5000000 ≤ 5000000 + id then vals (5000000 + id - 5000000) else 0 : Nat) : Int) = _
  rw [if_pos (by omega), Nat.add_sub_cancel_left]
  exact hv

/-- A call with numbers that bear names; function a is known. -/
theorem Fit.symK (h : Fit P) {a : FuncId} (hk : Plain P a) {d : Nat} {f : FuncId} (hbody : hasBody P f = true) {args args' : List Value} (vals : Nat → Nat) (ha : LR (zId P) (symCtx vals) (symDom P) args args')
    (ht : isTrue (callN (Canon.envK P a) d f args (Canon.start P)) = true) (w : World) : Calls P f args'.toArray w fun e w' => e = .returned (.bool true) ∧ Below w.heap.size w w' := by
  obtain ⟨s', hs⟩ := isTrue_some ht
  have hz := h.small'
  have hZ : zId P < base P := by unfold zId base; omega
  obtain ⟨m1, ⟨_, k1⟩ | ⟨_, fn, row, h6, h7, _⟩⟩ := callN_sound (Φ := ⟨w, (symCtx vals).x⟩) (P := P) rfl (h.envK hk _) d f args _ _ s' hs hZ
  rotate_left
  · exfalso
    unfold hasBody at hbody
    rw [h6] at hbody
    simp only at hbody
    cases hf : fn.body with
    | none => rw [hf] at hbody; cases hbody
    | some _ => rw [hf] at h7; cases h7
  have hH : HR ⟨w, (symCtx vals).x⟩ P (symCtx vals) (symDom P) (T.leaf : T AObj) w := ⟨fun o ho => absurd (get_leaf o) ho, fun o obj ho => (by rw [get_leaf] at ho; cases ho), fun o o' ho => absurd (get_leaf o) ho, Below.refl _ _, fun o ho => absurd (get_leaf o) ho, fun _ _ => rfl⟩
  have hB : Bd (Canon.start P) := ⟨by show base P ≤ 4000000; omega, fun o ho => absurd (get_leaf o) ho⟩
  have hB' := ((m1.2.2 hB).1).1
  refine (k1 (symCtx vals) (symDom P) w args' hB hH (fun g hg => ⟨.inl hg, rfl⟩) (fun o h1 h3 h2 => ?_) ha).mono fun e w' hp => ?_
  · have h1' : base P ≤ o := h1
    rcases h2 with h2 | h2 <;> omega
  · obtain ⟨c', v', rfl, st, hvv⟩ := hp
    refine ⟨by rw [hvv.ground2 rfl], ⟨st.os, st.tape, st.output, st.size, fun b hb => st.far b hb fun ⟨o, _, h2, _⟩ => absurd (get_leaf o) h2⟩⟩

end
end Go.Proofs.Ytlkjdclhgmkndaa.Canon
