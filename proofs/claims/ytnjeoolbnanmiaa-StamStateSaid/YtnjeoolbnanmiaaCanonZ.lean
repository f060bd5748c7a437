/-
  The same runner, with a table of calls already run.
-/
import Derived.Test.YtnjeoolbnanmiaaCanonY
namespace Go.Proofs.Ytnjeoolbnanmiaa.Canon
set_option linter.unusedVariables false
set_option linter.unusedSimpArgs false
open Go.RowKit

theorem bif_tt {a b : Bool} (h : (bif a then b else false) = true) : a = true ∧ b = true := by cases a <;> simp_all

/-! What is the same, told by running. -/
def fidEq : Fn → Fn → Bool
  | .func a, .func b => Nat.beq a b
  | _, _ => false
theorem fidEq_spec {a b : Fn} (h : fidEq a b = true) : a = b := by
  unfold fidEq at h
  split at h
  · rw [Nat.eq_of_beq_eq_true h]
  · cases h

/-- Two values, that may bear names. -/
def leafEq : Value → Value → Bool
  | .chan (some a), .chan (some b) => Nat.beq a b
  | .iface t (.map none), .iface u (.map none) => Nat.beq t u
  | a, b => sameV a b
theorem leafEq_spec {a b : Value} (h : leafEq a b = true) : a = b := by
  unfold leafEq at h
  split at h
  · rw [Nat.eq_of_beq_eq_true h]
  · rw [Nat.eq_of_beq_eq_true h]
  · exact sameV_spec h
def leafL : List Value → List Value → Bool
  | [], [] => true
  | a :: l, b :: r => bif leafEq a b then leafL l r else false
  | _, _ => false
theorem leafL_spec : ∀ {l r : List Value}, leafL l r = true → l = r
  | [], [], _ => rfl
  | a :: l, b :: r, h => by
    unfold leafL at h
    obtain ⟨h1, h⟩ := bif_tt h
    rw [leafEq_spec h1, leafL_spec h]
  | [], _ :: _, h => by cases h
  | _ :: _, [], h => by cases h

/-- Two values, of which lists of others may be part. -/
def vEq : Value → Value → Bool
  | .func f a b, .func g c d => bif fidEq f g then bif sameL a.toList c.toList then sameL b.toList d.toList else false else false
  | .tuple a, .tuple b => leafL a.toList b.toList
  | .agg a, .agg b => leafL a.toList b.toList
  | .complex .f64 l k, .complex .f64 l' k' => bif Nat.beq l l' then Nat.beq k k' else false
  | .chan (some a), .chan (some b) => Nat.beq a b
  | .iface t (.map none), .iface u (.map none) => Nat.beq t u
  | a, b => sameV a b
theorem arr_eq {a b : Array Value} (h : sameL a.toList b.toList = true) : a = b := Array.toList_inj.1 (sameL_spec h)
theorem vEq_spec {a b : Value} (h : vEq a b = true) : a = b := by
  unfold vEq at h
  split at h
  · obtain ⟨h1, h⟩ := bif_tt h
    obtain ⟨h2, h⟩ := bif_tt h
    rw [fidEq_spec h1, arr_eq h2, arr_eq h]
  · rw [Array.toList_inj.1 (leafL_spec h)]
  · rw [Array.toList_inj.1 (leafL_spec h)]
  · obtain ⟨h1, h⟩ := bif_tt h
    rw [Nat.eq_of_beq_eq_true h1, Nat.eq_of_beq_eq_true h]
  · rw [Nat.eq_of_beq_eq_true h]
  · rw [Nat.eq_of_beq_eq_true h]
  · exact sameV_spec h
def lEq : List Value → List Value → Bool
  | [], [] => true
  | a :: l, b :: r => bif vEq a b then lEq l r else false
  | _, _ => false
theorem lEq_spec : ∀ {l r : List Value}, lEq l r = true → l = r
  | [], [], _ => rfl
  | a :: l, b :: r, h => by
    unfold lEq at h
    obtain ⟨h1, h⟩ := bif_tt h
    rw [vEq_spec h1, lEq_spec h]
  | [], _ :: _, h => by cases h
  | _ :: _, [], h => by cases h
def oEq : Option AObj → Option AObj → Bool
  | none, none => true
  | some a, some b => bif lEq a.cells b.cells then bif Nat.beq a.elem b.elem then (bif a.exact then b.exact else !b.exact) else false else false
  | _, _ => false
theorem oEq_spec {a b : Option AObj} (h : oEq a b = true) : a = b := by
  unfold oEq at h
  split at h
  · rfl
  · rename_i a b
    obtain ⟨h1, h⟩ := bif_tt h
    obtain ⟨h2, h⟩ := bif_tt h
    obtain ⟨c, e, x⟩ := a
    obtain ⟨c', e', x'⟩ := b
    dsimp only at h1 h2 h
    rw [lEq_spec h1, Nat.eq_of_beq_eq_true h2]
    cases x <;> cases x' <;> first | rfl | cases h
  · cases h
noncomputable def tEq (t : T AObj) : T AObj → Bool :=
  T.rec (motive := fun _ => T AObj → Bool) (fun u => T.rec (motive := fun _ => Bool) true (fun _ _ _ _ _ _ _ _ _ => false) u)
    (fun v a b c d ia ib ic id u => T.rec (motive := fun _ => Bool) false
      (fun v' a' b' c' d' _ _ _ _ => bif oEq v v' then bif ia a' then bif ib b' then bif ic c' then id d' else false else false else false else false) u) t
theorem tEq_spec : ∀ {t u : T AObj}, tEq t u = true → t = u
  | .leaf, .leaf, _ => rfl
  | .leaf, .node .., h => by cases h
  | .node .., .leaf, h => by cases h
  | .node v a b c d, .node v' a' b' c' d', h => by
    have h : (bif oEq v v' then bif tEq a a' then bif tEq b b' then bif tEq c c' then tEq d d' else false else false else false else false) = true := h
    obtain ⟨h1, h⟩ := bif_tt h
    obtain ⟨h2, h⟩ := bif_tt h
    obtain ⟨h3, h⟩ := bif_tt h
    obtain ⟨h4, h⟩ := bif_tt h
    rw [oEq_spec h1, tEq_spec h2, tEq_spec h3, tEq_spec h4, tEq_spec h]
noncomputable def sEq (a b : St) : Bool := bif Nat.beq a.next b.next then bif Nat.beq a.mw b.mw then tEq a.heap b.heap else false else false
theorem sEq_spec {a b : St} (h : sEq a b = true) : a = b := by
  unfold sEq at h
  obtain ⟨h1, h⟩ := bif_tt h
  obtain ⟨h2, h⟩ := bif_tt h
  obtain ⟨n, m, t⟩ := a
  obtain ⟨n', m', t'⟩ := b
  dsimp only at h1 h2 h
  rw [Nat.eq_of_beq_eq_true h1, Nat.eq_of_beq_eq_true h2, tEq_spec h]

/-- A call already run. -/
structure Run1 where
  d : Nat
  f : FuncId
  args : List Value
  s : St
  v : Value
  s' : St
noncomputable def Run1.is (e : Run1) (d : Nat) (f : FuncId) (args : List Value) (s : St) : Bool :=
  bif Nat.beq f e.f then bif Nat.beq s.next e.s.next then bif Nat.beq d e.d then bif lEq args e.args then sEq s e.s else false else false else false else false
noncomputable def find (tb : List Run1) (d : Nat) (f : FuncId) (args : List Value) (s : St) : Option (Value × St) :=
  List.rec (motive := fun _ => Option (Value × St)) none (fun e _ ih => bif e.is d f args s then some (e.v, e.s') else ih) tb
def RunOK (E : Env) (e : Run1) : Prop := callN E e.d e.f e.args e.s = some (e.v, e.s')
def AllOK (E : Env) (tb : List Run1) : Prop := ∀ e ∈ tb, RunOK E e
theorem find_spec {E : Env} : ∀ {tb : List Run1}, AllOK E tb → ∀ {d : Nat} {f : FuncId} {args : List Value} {s : St} {r : Value × St}, find tb d f args s = some r → callN E d f args s = some r
  | [], _, _, _, _, _, _, h => by cases h
  | e :: tb, ht, d, f, args, s, r, h => by
    have h : (bif e.is d f args s then some (e.v, e.s') else find tb d f args s) = some r := h
    rcases bif_or h with ⟨h1, h⟩ | ⟨_, h⟩
    · unfold Run1.is at h1
      obtain ⟨k1, h1⟩ := bif_tt h1
      obtain ⟨_, h1⟩ := bif_tt h1
      obtain ⟨k2, h1⟩ := bif_tt h1
      obtain ⟨k3, h1⟩ := bif_tt h1
      have := ht e (List.mem_cons_self ..)
      unfold RunOK at this
      rw [Nat.eq_of_beq_eq_true k1, Nat.eq_of_beq_eq_true k2, lEq_spec k3, sEq_spec h1, this]
      exact h
    · exact find_spec (fun e he => ht e (List.mem_cons_of_mem _ he)) h

/-- The runner, with a table. -/
noncomputable def callT (E : Env) (tb : List Run1) (d : Nat) : CallF :=
  Nat.rec (motive := fun _ => CallF) (fun _ _ _ => none)
    (fun d ih f args s => Option.rec (motive := fun _ => CallF → Option (Value × St)) (fun ih => bodyY E ih f args s) (fun r _ => some r) (find tb (Nat.succ d) f args s) ih) d

section
variable {E : Env}

theorem body_callN {call : CallF} {d : Nat} (hc : Calls2 call (callN E d)) : Calls2 (bodyY E call) (callN E (d + 1)) := by
  intro f args s r h
  unfold bodyY at h
  unfold callN
  split at h
  · cases h
  · rename_i fn hfn
    rw [hfn]
    simp only
    cases hb : fn.body with
    | none => rw [hb] at h; exact h
    | some c =>
      rw [hb] at h
      simp only at h ⊢
      cases hk : (bif E.known f then noArg args else false) with
      | true => rw [hk, cond_true] at h; rw [cond_true]; exact h
      | false =>
      rw [hk, cond_false] at h
      rw [cond_false]
      cases hor : E.orc f args with
      | some v => rw [hor] at h; exact h
      | none =>
      rw [hor] at h
      simp only at h ⊢
      obtain ⟨hg, h⟩ := bif_inv h
      simp only [Bool.and_eq_true, Nat.ble_eq, lenN_eq, Nat.add_zero] at hg
      simp only [kNat_eq, lenN_eq, Nat.add_zero, execY_eq E (call2 := call) rfl] at h ⊢
      unfold finishY at h
      split at h
      · rename_i x tm s1 hex
        obtain ⟨l', e1, e2⟩ := exec_W hc c _ _ _ _ _ _ (Rp.start (args := args) (k := fn.ntmps - args.length) (by omega)) hex
        rw [e1]
        simp only
        cases x with
        | exit id => cases h
        | normal =>
          simp only at h ⊢
          split at h
          · rename_i l hl; rw [results_W e2 _ l hl]; exact h
          · cases h
        | ret =>
          simp only at h ⊢
          split at h
          · rename_i l hl; rw [results_W e2 _ l hl]; exact h
          · cases h
      · cases h

theorem callT_callN {tb : List Run1} (ht : AllOK E tb) : ∀ d, Calls2 (callT E tb d) (callN E d)
  | 0 => fun f args s r h => by cases h
  | d + 1 => by
    intro f args s r h
    have h : Option.rec (motive := fun _ => CallF → Option (Value × St)) (fun ih => bodyY E ih f args s) (fun r _ => some r) (find tb (d + 1) f args s) (callT E tb d) = some r := h
    cases hf : find tb (d + 1) f args s with
    | none => rw [hf] at h; exact body_callN (callT_callN ht d) _ _ _ _ h
    | some q => rw [hf] at h; exact (find_spec ht hf).trans h

/-- Is that what comes? -/
noncomputable def isIt (r : Option (Value × St)) (v : Value) (s' : St) : Bool := match r with
  | some (u, t) => bif vEq u v then sEq t s' else false
  | none => false
theorem none_told : AllOK E [] := fun e he => by cases he
/-- One call more of the table. -/
theorem more_told {tb : List Run1} (ht : AllOK E tb) (e : Run1) (h : isIt (callT E tb e.d e.f e.args e.s) e.v e.s' = true) : AllOK E (e :: tb) := fun x hx => by
  rcases List.mem_cons.1 hx with rfl | hx
  · unfold isIt at h
    split at h
    · rename_i u t hr
      obtain ⟨h1, h2⟩ := bif_tt h
      unfold RunOK
      rw [callT_callN ht _ _ _ _ _ hr, vEq_spec h1, sEq_spec h2]
    · cases h
  · exact ht x hx
/-- Of two tables. -/
theorem both_told {a b : List Run1} (ha : AllOK E a) (hb : AllOK E b) : AllOK E (a ++ b) := fun x hx => (List.mem_append.1 hx).elim (ha x) (hb x)
theorem T_true {tb : List Run1} (ht : AllOK E tb) {d : Nat} {f : FuncId} {args : List Value} {s : St} (h : isTrue (callT E tb d f args s) = true) : isTrue (callN E d f args s) = true := by
  obtain ⟨s', e⟩ := isTrue_some h
  rw [callT_callN ht d _ _ _ _ e]
  rfl
/-- One row more, run with a table. -/
theorem nextT {d : Nat} {f : FuncId} {mk : Nat → List Value} {n : Nat} {tb : List Run1} (h : ∀ k, k < n → isTrue (callN E d f (mk k) (start E.P)) = true) (ht : AllOK E tb)
    (hr : isTrue (callT E tb d f (mk n) (start E.P)) = true) : ∀ k, k < n + 1 → isTrue (callN E d f (mk k) (start E.P)) = true := fun k hk => by
  rcases Nat.lt_or_ge k n with h1 | h1
  · exact h k h1
  · rw [show k = n by omega]; exact T_true ht hr
end
end Go.Proofs.Ytnjeoolbnanmiaa.Canon
