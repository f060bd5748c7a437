/-
  The same runner, by recursors whose arms are closed: what it answers, the other one answers.
  The same runner, with a table of calls already run.
-/
import Derived.Test.YtlkjdclhgmkndaaCanonW
namespace Go.Proofs.Ytlkjdclhgmkndaa.Canon
set_option linter.unusedVariables false
set_option linter.unusedSimpArgs false
open Go.RowKit

/-! Forcing. -/
noncomputable def kNat {α : Type} (n : Nat) (k : Nat → α) : α := Nat.rec (motive := fun _ => α) (k 0) (fun m _ => k (Nat.succ m)) n
theorem kNat_eq {α : Type} (n : Nat) (k : Nat → α) : kNat n k = k n := by cases n <;> rfl

abbrev ROps := Option (TM × St)
noncomputable def kInt (kd : IntKind) (n : Int) (k : Value → ROps) : ROps :=
  Int.rec (motive := fun _ => IntKind → (Value → ROps) → ROps) (fun m kd k => kNat m fun m => k (.int kd (.ofNat m))) (fun m kd k => kNat m fun m => k (.int kd (.negSucc m))) n kd k
noncomputable def kPtr (a : Addr) (k : Value → ROps) : ROps :=
  Addr.rec (motive := fun _ => (Value → ROps) → ROps) (fun b o s k => kNat b fun b => kNat o fun o => k (.pointer (some ⟨b, o, s⟩))) a k
noncomputable def kSl (a : Addr) (l c : Nat) (k : Value → ROps) : ROps :=
  Addr.rec (motive := fun _ => Nat → Nat → (Value → ROps) → ROps) (fun b o s l c k => kNat b fun b => kNat o fun o => kNat l fun l => kNat c fun c => k (.slice (some ⟨b, o, s⟩) l c)) a l c k
noncomputable def kVal (v : Value) (k : Value → ROps) : ROps :=
  Value.rec (motive_1 := fun _ => (Value → ROps) → ROps) (motive_2 := fun _ => PUnit) (motive_3 := fun _ => PUnit)
    (fun b k => Bool.rec (motive := fun _ => ROps) (k (.bool false)) (k (.bool true)) b)
    (fun kd n k => kInt kd n k)
    (fun kd n k => k (.float kd n)) (fun kd a b k => k (.complex kd a b)) (fun s k => k (.string s))
    (fun a k => Option.rec (motive := fun _ => (Value → ROps) → ROps) (fun k => k (.pointer none)) (fun a k => kPtr a k) a k)
    (fun a l c k => Option.rec (motive := fun _ => Nat → Nat → (Value → ROps) → ROps) (fun l c k => k (.slice none l c)) (fun a l c k => kSl a l c k) a l c k)
    (fun a k => k (.map a)) (fun a k => k (.chan a)) (fun f a b _ _ k => k (.func f a b)) (fun k => k .nilFunc) (fun t v _ k => k (.iface t v)) (fun k => k .nilIface)
    (fun cs _ k => k (.agg cs)) (fun cs _ k => k (.tuple cs)) (fun _ _ => ⟨⟩) ⟨⟩ (fun _ _ _ _ => ⟨⟩) v k
theorem kVal_eq (v : Value) (k : Value → ROps) : kVal v k = k v := by
  cases v with
  | bool b => cases b <;> rfl
  | int kd n =>
    cases n with
    | ofNat m => exact kNat_eq m fun m => k (.int kd (.ofNat m))
    | negSucc m => exact kNat_eq m fun m => k (.int kd (.negSucc m))
  | pointer a => cases a with
    | none => rfl
    | some a =>
      obtain ⟨b, o, s⟩ := a
      exact (kNat_eq b fun b => kNat o fun o => k (.pointer (some ⟨b, o, s⟩))).trans (kNat_eq o fun o => k (.pointer (some ⟨b, o, s⟩)))
  | slice a l c => cases a with
    | none => rfl
    | some a =>
      obtain ⟨b, o, s⟩ := a
      exact (kNat_eq b fun b => kNat o fun o => kNat l fun l => kNat c fun c => k (.slice (some ⟨b, o, s⟩) l c)).trans
        ((kNat_eq o fun o => kNat l fun l => kNat c fun c => k (.slice (some ⟨b, o, s⟩) l c)).trans
        ((kNat_eq l fun l => kNat c fun c => k (.slice (some ⟨b, o, s⟩) l c)).trans (kNat_eq c fun c => k (.slice (some ⟨b, o, s⟩) l c))))
  | _ => rfl

/-! The tree of temporaries. -/
/-! Paths of a number in the tree; closed arms. -/
inductive D4 where | d0 | d1 | d2 | d3
noncomputable def digC (r : Nat) : D4 := Nat.rec (motive := fun _ => D4) .d2 (fun _ _ => .d3) r
noncomputable def digB (r : Nat) : D4 := Nat.rec (motive := fun _ => D4) .d1 (fun r _ => digC r) r
noncomputable def digA (r : Nat) : D4 := Nat.rec (motive := fun _ => D4) .d0 (fun r _ => digB r) r
noncomputable def pathF (f : Nat) : Nat → List D4 :=
  Nat.rec (motive := fun _ => Nat → List D4) (fun _ => []) (fun _ ih n => Bool.rec (motive := fun _ => List D4) (digA (Nat.mod (Nat.sub n 1) 4) :: ih (Nat.div (Nat.sub n 1) 4)) [] (Nat.beq n 0)) f
theorem pathF_succ (f n : Nat) : pathF (f + 1) n = if n = 0 then [] else digA ((n - 1) % 4) :: pathF f ((n - 1) / 4) := by
  have e : pathF (f + 1) n = bif Nat.beq n 0 then [] else digA ((n - 1) % 4) :: pathF f ((n - 1) / 4) := brec _ _ _
  rw [e]
  by_cases h : n = 0
  · rw [nbeq_yes h, if_pos h]; rfl
  · rw [nbeq_no h, if_neg h]; rfl
theorem set_deep_leaf {α : Type} (x : Option α) (f m : Nat) : T.set x (f + 1) .leaf (m + 1) = bif Nat.beq (m % 4) 0 then .node none (T.set x f .leaf (m / 4)) .leaf .leaf .leaf
    else bif Nat.beq (m % 4) 1 then .node none .leaf (T.set x f .leaf (m / 4)) .leaf .leaf else bif Nat.beq (m % 4) 2 then .node none .leaf .leaf (T.set x f .leaf (m / 4)) .leaf
    else .node none .leaf .leaf .leaf (T.set x f .leaf (m / 4)) := by
  refine (brec (Bool.rec (motive := fun _ => T α) (Bool.rec (motive := fun _ => T α) (.node none .leaf .leaf .leaf (T.set x f .leaf (m / 4))) (.node none .leaf .leaf (T.set x f .leaf (m / 4)) .leaf) (Nat.beq (m % 4) 2))
    (.node none .leaf (T.set x f .leaf (m / 4)) .leaf .leaf) (Nat.beq (m % 4) 1)) (.node none (T.set x f .leaf (m / 4)) .leaf .leaf .leaf) (Nat.beq (m % 4) 0)).trans ?_
  rw [brec, brec]
theorem set_deep_node {α : Type} (x : Option α) (f m : Nat) (v : Option α) (a b c d : T α) : T.set x (f + 1) (.node v a b c d) (m + 1) = bif Nat.beq (m % 4) 0 then .node v (T.set x f a (m / 4)) b c d
    else bif Nat.beq (m % 4) 1 then .node v a (T.set x f b (m / 4)) c d else bif Nat.beq (m % 4) 2 then .node v a b (T.set x f c (m / 4)) d
    else .node v a b c (T.set x f d (m / 4)) := by
  refine (brec (Bool.rec (motive := fun _ => T α) (Bool.rec (motive := fun _ => T α) (.node v a b c (T.set x f d (m / 4))) (.node v a b (T.set x f c (m / 4)) d) (Nat.beq (m % 4) 2))
    (.node v a (T.set x f b (m / 4)) c d) (Nat.beq (m % 4) 1)) (.node v (T.set x f a (m / 4)) b c d) (Nat.beq (m % 4) 0)).trans ?_
  rw [brec, brec]
abbrev TV := T Value
abbrev TA := T AObj

abbrev PGV := TV → TV → TV → TV → (TV → Option Value) → Option Value
noncomputable def getPV (p : List D4) : TV → Option Value :=
  List.rec (motive := fun _ => TV → Option Value) (fun t => T.rec (motive := fun _ => Option Value) none (fun v _ _ _ _ _ _ _ _ => v) t)
    (fun q _ ih t => T.rec (motive := fun _ => D4 → (TV → Option Value) → Option Value) (fun _ _ => none)
      (fun _ a b c e _ _ _ _ q ih => D4.rec (motive := fun _ => PGV) (fun a _ _ _ ih => ih a) (fun _ b _ _ ih => ih b) (fun _ _ c _ ih => ih c) (fun _ _ _ e ih => ih e) q a b c e ih) t q ih) p
abbrev PSV := Option Value → TV → TV → TV → TV → (Option Value → TV → TV) → Option Value → TV
noncomputable def setPV (p : List D4) : Option Value → TV → TV :=
  List.rec (motive := fun _ => Option Value → TV → TV) (fun x t => T.rec (motive := fun _ => Option Value → TV) (fun x => .node x .leaf .leaf .leaf .leaf) (fun _ a b c e _ _ _ _ x => .node x a b c e) t x)
    (fun q _ ih x t => T.rec (motive := fun _ => D4 → (Option Value → TV → TV) → Option Value → TV)
      (fun q ih x => D4.rec (motive := fun _ => (Option Value → TV → TV) → Option Value → TV) (fun ih x => .node none (ih x .leaf) .leaf .leaf .leaf) (fun ih x => .node none .leaf (ih x .leaf) .leaf .leaf)
        (fun ih x => .node none .leaf .leaf (ih x .leaf) .leaf) (fun ih x => .node none .leaf .leaf .leaf (ih x .leaf)) q ih x)
      (fun v a b c e _ _ _ _ q ih x => D4.rec (motive := fun _ => PSV) (fun v a b c e ih x => .node v (ih x a) b c e) (fun v a b c e ih x => .node v a (ih x b) c e)
        (fun v a b c e ih x => .node v a b (ih x c) e) (fun v a b c e ih x => .node v a b c (ih x e)) q v a b c e ih x) t q ih x) p
theorem getPV_eq : ∀ (f : Nat) (t : TV) (n : Nat), n + 1 < 2 ^ f → getPV (pathF f n) t = t.get n
  | 0, t, n, h => by simp at h
  | f + 1, t, n, h => by
    have hp : 2 ^ (f + 1) = 2 * 2 ^ f := by rw [Nat.pow_succ, Nat.mul_comm]
    rw [pathF_succ, get_sel]
    by_cases hn : n = 0
    · rw [if_pos hn, if_pos hn]
      cases t <;> rfl
    · rw [if_neg hn, if_neg hn, ← getPV_eq f _ _ (by omega)]
      cases t with
      | leaf =>
        have e : getPV (pathF f ((n - 1) / 4)) .leaf = none := by rw [getPV_eq f _ _ (by omega)]; rfl
        show none = getPV (pathF f ((n - 1) / 4)) .leaf
        rw [e]
      | node v a b c e =>
        show D4.rec (motive := fun _ => PGV) (fun a _ _ _ ih => ih a) (fun _ b _ _ ih => ih b) (fun _ _ c _ ih => ih c) (fun _ _ _ e ih => ih e) (digA ((n - 1) % 4)) a b c e (getPV (pathF f ((n - 1) / 4))) = _
        have hr : (n - 1) % 4 = 0 ∨ (n - 1) % 4 = 1 ∨ (n - 1) % 4 = 2 ∨ (n - 1) % 4 = 3 := by omega
        rcases hr with hr | hr | hr | hr <;> rw [hr] <;> rfl
theorem setPV_eq (x : Option Value) : ∀ (f : Nat) (t : TV) (n : Nat), n + 1 < 2 ^ f → setPV (pathF f n) x t = T.set x f t n
  | 0, t, n, h => by simp at h
  | f + 1, t, n, h => by
    have hp : 2 ^ (f + 1) = 2 * 2 ^ f := by rw [Nat.pow_succ, Nat.mul_comm]
    rw [pathF_succ]
    by_cases hn : n = 0
    · rw [if_pos hn]
      subst hn
      cases t <;> rfl
    · rw [if_neg hn]
      have ih : ∀ t, setPV (pathF f ((n - 1) / 4)) x t = T.set x f t ((n - 1) / 4) := fun t => setPV_eq x f t _ (by omega)
      obtain ⟨m, rfl⟩ : ∃ m, n = m + 1 := ⟨n - 1, by omega⟩
      rw [Nat.add_sub_cancel] at ih ⊢
      have hr : m % 4 = 0 ∨ m % 4 = 1 ∨ m % 4 = 2 ∨ m % 4 = 3 := by omega
      cases t with
      | leaf =>
        have e1 : setPV (digA (m % 4) :: pathF f (m / 4)) x .leaf = D4.rec (motive := fun _ => (Option Value → TV → TV) → Option Value → TV) (fun ih x => .node none (ih x .leaf) .leaf .leaf .leaf) (fun ih x => .node none .leaf (ih x .leaf) .leaf .leaf)
          (fun ih x => .node none .leaf .leaf (ih x .leaf) .leaf) (fun ih x => .node none .leaf .leaf .leaf (ih x .leaf)) (digA (m % 4)) (setPV (pathF f (m / 4))) x := rfl
        rw [e1, set_deep_leaf]
        rcases hr with hr | hr | hr | hr <;> rw [hr] <;> (show T.node _ _ _ _ _ = T.node _ _ _ _ _; rw [ih])
      | node v a b c e =>
        have e1 : setPV (digA (m % 4) :: pathF f (m / 4)) x (.node v a b c e) = D4.rec (motive := fun _ => PSV) (fun v a b c e ih x => .node v (ih x a) b c e) (fun v a b c e ih x => .node v a (ih x b) c e)
          (fun v a b c e ih x => .node v a b (ih x c) e) (fun v a b c e ih x => .node v a b c (ih x e)) (digA (m % 4)) v a b c e (setPV (pathF f (m / 4))) x := rfl
        rw [e1, set_deep_node]
        rcases hr with hr | hr | hr | hr <;> rw [hr] <;> (show T.node _ _ _ _ _ = T.node _ _ _ _ _; rw [ih])
noncomputable def getV (t : TV) (n : Nat) : Option Value := Bool.rec (motive := fun _ => Option Value) (t.get n) (getPV (pathF 22 n) t) (Nat.ble n 4000000)
theorem getV_eq (t : TV) (n : Nat) : getV t n = t.get n := by
  unfold getV
  rw [brec]
  cases h : Nat.ble n 4000000 with
  | false => rfl
  | true => rw [cond_true]; rw [Nat.ble_eq] at h; exact getPV_eq 22 t n (by omega)
noncomputable def setV (x : Option Value) (t : TV) (n : Nat) : TV := Bool.rec (motive := fun _ => TV) (T.set x deep t n) (setPV (pathF 22 n) x t) (Nat.ble n 4000000)
theorem setV_eq (x : Option Value) (t : TV) (n : Nat) : setV x t n = T.set x deep t n := by
  unfold setV
  rw [brec]
  cases h : Nat.ble n 4000000 with
  | false => rfl
  | true => rw [cond_true]; rw [Nat.ble_eq] at h; exact setPV_eq x 22 t n (by omega)

abbrev PGA := TA → TA → TA → TA → (TA → Option AObj) → Option AObj
noncomputable def getPA (p : List D4) : TA → Option AObj :=
  List.rec (motive := fun _ => TA → Option AObj) (fun t => T.rec (motive := fun _ => Option AObj) none (fun v _ _ _ _ _ _ _ _ => v) t)
    (fun q _ ih t => T.rec (motive := fun _ => D4 → (TA → Option AObj) → Option AObj) (fun _ _ => none)
      (fun _ a b c e _ _ _ _ q ih => D4.rec (motive := fun _ => PGA) (fun a _ _ _ ih => ih a) (fun _ b _ _ ih => ih b) (fun _ _ c _ ih => ih c) (fun _ _ _ e ih => ih e) q a b c e ih) t q ih) p
abbrev PSA := Option AObj → TA → TA → TA → TA → (Option AObj → TA → TA) → Option AObj → TA
noncomputable def setPA (p : List D4) : Option AObj → TA → TA :=
  List.rec (motive := fun _ => Option AObj → TA → TA) (fun x t => T.rec (motive := fun _ => Option AObj → TA) (fun x => .node x .leaf .leaf .leaf .leaf) (fun _ a b c e _ _ _ _ x => .node x a b c e) t x)
    (fun q _ ih x t => T.rec (motive := fun _ => D4 → (Option AObj → TA → TA) → Option AObj → TA)
      (fun q ih x => D4.rec (motive := fun _ => (Option AObj → TA → TA) → Option AObj → TA) (fun ih x => .node none (ih x .leaf) .leaf .leaf .leaf) (fun ih x => .node none .leaf (ih x .leaf) .leaf .leaf)
        (fun ih x => .node none .leaf .leaf (ih x .leaf) .leaf) (fun ih x => .node none .leaf .leaf .leaf (ih x .leaf)) q ih x)
      (fun v a b c e _ _ _ _ q ih x => D4.rec (motive := fun _ => PSA) (fun v a b c e ih x => .node v (ih x a) b c e) (fun v a b c e ih x => .node v a (ih x b) c e)
        (fun v a b c e ih x => .node v a b (ih x c) e) (fun v a b c e ih x => .node v a b c (ih x e)) q v a b c e ih x) t q ih x) p
theorem getPA_eq : ∀ (f : Nat) (t : TA) (n : Nat), n + 1 < 2 ^ f → getPA (pathF f n) t = t.get n
  | 0, t, n, h => by simp at h
  | f + 1, t, n, h => by
    have hp : 2 ^ (f + 1) = 2 * 2 ^ f := by rw [Nat.pow_succ, Nat.mul_comm]
    rw [pathF_succ, get_sel]
    by_cases hn : n = 0
    · rw [if_pos hn, if_pos hn]
      cases t <;> rfl
    · rw [if_neg hn, if_neg hn, ← getPA_eq f _ _ (by omega)]
      cases t with
      | leaf =>
        have e : getPA (pathF f ((n - 1) / 4)) .leaf = none := by rw [getPA_eq f _ _ (by omega)]; rfl
        show none = getPA (pathF f ((n - 1) / 4)) .leaf
        rw [e]
      | node v a b c e =>
        show D4.rec (motive := fun _ => PGA) (fun a _ _ _ ih => ih a) (fun _ b _ _ ih => ih b) (fun _ _ c _ ih => ih c) (fun _ _ _ e ih => ih e) (digA ((n - 1) % 4)) a b c e (getPA (pathF f ((n - 1) / 4))) = _
        have hr : (n - 1) % 4 = 0 ∨ (n - 1) % 4 = 1 ∨ (n - 1) % 4 = 2 ∨ (n - 1) % 4 = 3 := by omega
        rcases hr with hr | hr | hr | hr <;> rw [hr] <;> rfl
theorem setPA_eq (x : Option AObj) : ∀ (f : Nat) (t : TA) (n : Nat), n + 1 < 2 ^ f → setPA (pathF f n) x t = T.set x f t n
  | 0, t, n, h => by simp at h
  | f + 1, t, n, h => by
    have hp : 2 ^ (f + 1) = 2 * 2 ^ f := by rw [Nat.pow_succ, Nat.mul_comm]
    rw [pathF_succ]
    by_cases hn : n = 0
    · rw [if_pos hn]
      subst hn
      cases t <;> rfl
    · rw [if_neg hn]
      have ih : ∀ t, setPA (pathF f ((n - 1) / 4)) x t = T.set x f t ((n - 1) / 4) := fun t => setPA_eq x f t _ (by omega)
      obtain ⟨m, rfl⟩ : ∃ m, n = m + 1 := ⟨n - 1, by omega⟩
      rw [Nat.add_sub_cancel] at ih ⊢
      have hr : m % 4 = 0 ∨ m % 4 = 1 ∨ m % 4 = 2 ∨ m % 4 = 3 := by omega
      cases t with
      | leaf =>
        have e1 : setPA (digA (m % 4) :: pathF f (m / 4)) x .leaf = D4.rec (motive := fun _ => (Option AObj → TA → TA) → Option AObj → TA) (fun ih x => .node none (ih x .leaf) .leaf .leaf .leaf) (fun ih x => .node none .leaf (ih x .leaf) .leaf .leaf)
          (fun ih x => .node none .leaf .leaf (ih x .leaf) .leaf) (fun ih x => .node none .leaf .leaf .leaf (ih x .leaf)) (digA (m % 4)) (setPA (pathF f (m / 4))) x := rfl
        rw [e1, set_deep_leaf]
        rcases hr with hr | hr | hr | hr <;> rw [hr] <;> (show T.node _ _ _ _ _ = T.node _ _ _ _ _; rw [ih])
      | node v a b c e =>
        have e1 : setPA (digA (m % 4) :: pathF f (m / 4)) x (.node v a b c e) = D4.rec (motive := fun _ => PSA) (fun v a b c e ih x => .node v (ih x a) b c e) (fun v a b c e ih x => .node v a (ih x b) c e)
          (fun v a b c e ih x => .node v a b (ih x c) e) (fun v a b c e ih x => .node v a b c (ih x e)) (digA (m % 4)) v a b c e (setPA (pathF f (m / 4))) x := rfl
        rw [e1, set_deep_node]
        rcases hr with hr | hr | hr | hr <;> rw [hr] <;> (show T.node _ _ _ _ _ = T.node _ _ _ _ _; rw [ih])
noncomputable def getA (t : TA) (n : Nat) : Option AObj := Bool.rec (motive := fun _ => Option AObj) (t.get n) (getPA (pathF 22 n) t) (Nat.ble n 4000000)
theorem getA_eq (t : TA) (n : Nat) : getA t n = t.get n := by
  unfold getA
  rw [brec]
  cases h : Nat.ble n 4000000 with
  | false => rfl
  | true => rw [cond_true]; rw [Nat.ble_eq] at h; exact getPA_eq 22 t n (by omega)
noncomputable def setA (x : Option AObj) (t : TA) (n : Nat) : TA := Bool.rec (motive := fun _ => TA) (T.set x deep t n) (setPA (pathF 22 n) x t) (Nat.ble n 4000000)
theorem setA_eq (x : Option AObj) (t : TA) (n : Nat) : setA x t n = T.set x deep t n := by
  unfold setA
  rw [brec]
  cases h : Nat.ble n 4000000 with
  | false => rfl
  | true => rw [cond_true]; rw [Nat.ble_eq] at h; exact setPA_eq x 22 t n (by omega)
noncomputable def putY (d : Option Tmp) (m : TM) (v : Value) : TM :=
  Option.rec (motive := fun _ => TM → Value → TM) (fun m _ => m)
    (fun d m v => TM.rec (motive := fun _ => Nat → Value → TM) (fun t n d v => Bool.rec (motive := fun _ => TM) ⟨t, n⟩ ⟨setV (some v) t d, n⟩ (Nat.ble (Nat.succ d) n)) m d v) d m v
theorem putY_eq (d : Option Tmp) (m : TM) (v : Value) : putY d m v = putW m d v := by
  cases d with
  | none => rfl
  | some d =>
    obtain ⟨t, n⟩ := m
    unfold putW
    show Bool.rec (motive := fun _ => TM) ⟨t, n⟩ ⟨setV (some v) t d, n⟩ (Nat.blt d n) = _
    rw [brec, setV_eq]
    simp only [fNat_eq]

noncomputable def aevalY (Z : Nat) (m : TM) (x : Operand) : Value :=
  Operand.rec (motive := fun _ => Nat → TM → Value)
    (fun i _ m => Option.rec (motive := fun _ => Value) undef (fun v => v) (getV m.t i))
    (fun v _ _ => Bool.rec (motive := fun _ => Value) undef v (ground2 v))
    (fun g Z _ => Bool.rec (motive := fun _ => Value) undef (.pointer (some ⟨g, 0, none⟩)) (Nat.ble (Nat.succ g) Z))
    (fun f _ _ => .func (.func f) #[] #[]) x Z m
theorem aevalY_eq (Z : Nat) (m : TM) : aevalY Z m = aevalW Z m := by
  funext x
  cases x with
  | tmp i =>
    show Option.rec (motive := fun _ => Value) undef (fun v => v) (getV m.t i) = _
    rw [getV_eq]
    have e : aevalW Z m (.tmp i) = (match m.t.get i with | some v => v | none => undef) := rfl
    rw [e]
    cases m.t.get i <;> rfl
  | const v => exact brec _ _ _
  | global g => exact brec _ _ _
  | func f => rfl

noncomputable def wantedY (ops : List Oper) (m : TM) (o : Oper) : Bool :=
  Option.rec (motive := fun _ => List Oper → TM → Oper → Bool) (fun _ _ _ => true) (fun _ ops m o => wantedW ops m o) o.guard ops m o
theorem wantedY_eq (ops : List Oper) (m : TM) (o : Oper) : wantedY ops m o = wantedW ops m o := by
  unfold wantedY
  cases h : o.guard with
  | none => unfold wantedW; rw [h]
  | some jw => rfl

/-! Operations. -/
noncomputable def pickY (c a b : Value) : Option Value := match c with | .bool t => some (bif t then a else b) | _ => none
noncomputable def buildY (P : Program) (ev : Operand → Value) (t : TypeId) (ps : Array (Nat × Operand)) : Option Value := match zero? P t with
  | some z => bif allL ground0 z then (match buildW P t (ps.toList.map fun (i, x) => (i, ev x)) with
    | some v => some v
    | none => prun P (Instr.build t (ps.toList.map fun (i, x) => (i, ev x)).toArray)) else none
  | none => none
noncomputable def nilY (v : Value) : Option Value := match v with
  | .pointer (some a) => some (.pointer (some a))
  | .func (.func f) first captured => some (.func (.func f) first captured)
  | _ => none
noncomputable def binY (P : Program) (op : BinOp) (t : TypeId) (x y : Value) : Option Value := match symBin op x y with | some v => some v | none => bin P op t x y
noncomputable def unY (P : Program) (op : UnOp) (v : Value) : Option Value := match op, v with
  | .not, .bool b => some (.bool (!b))
  | .neg, .int k n => some (.int k (wrapF k (0 - n)))
  | .xor, .int k n => prunG P (Op.unary .xor (.int k n))
  | _, _ => none
noncomputable def convY (P : Program) (src dst : TypeId) (v : Value) : Option Value := match v with
  | .int _ n => (match P.underlying src with
    | some _ => (match P.underlying dst with | some (.int k) => some (convInt k n) | _ => none)
    | none => none)
  | .string s => (match P.underlying src with
    | some _ => (match P.underlying dst with | some .string => some (.string s) | _ => none)
    | none => none)
  | _ => none
noncomputable def ifaceY (P : Program) (t : TypeId) (v : Value) : Option Value := match P.underlying t with
  | some (.interface _) => none
  | some _ => some (.iface t v)
  | none => none
noncomputable def fieldAddrY (P : Program) (s : TypeId) (v : Value) (f : Nat) : Option Value := match v, P.underlying s with
  | .pointer (some a), some (.struct fields) => (match fields[f]? with
    | some fd => (match size? P fd.type with
      | some 0 => none
      | some _ => some (.pointer (some (a.add fd.offset)))
      | none => none)
    | none => none)
  | _, _ => none
noncomputable def indexAddrY (P : Program) (t : TypeId) (v i : Value) : Option Value := match v, i, P.underlying t with
  | .slice (some a) len _, .int _ (.ofNat n), some (.slice e) => (match size? P e with
    | some sz => bif Nat.blt n len then some (.pointer (some (a.add (n * sz)))) else none
    | none => none)
  | .pointer (some a), .int _ (.ofNat n), some (.array len e) => (match size? P e with
    | some sz => bif Nat.blt n len then some (.pointer (some (a.add (n * sz)))) else none
    | none => none)
  | _, _, _ => none
noncomputable def indexY (P : Program) (t : TypeId) (v i : Value) : Option Value := match v, i, P.underlying t with
  | .string s, .int _ (.ofNat n), some .string => (match nth s.data.toList n with | some b => some (.int .u8 (.ofNat b.toNat)) | none => none)
  | .agg cs, .int k n, some (.array len e) => prun P (Instr.index t (.agg cs) (.int k n))
  | _, _, _ => none
noncomputable def extractY (v : Value) (i : Nat) : Option Value := match v with
  | .tuple vs => nth vs.toList i
  | _ => none
noncomputable def sliceY (P : Program) (ev : Operand → Value) (t : TypeId) (v : Value) (lo hi mx : Option Operand) : Option Value := match v, P.underlying t with
  | .string s, some .string => (match mx with | none => sliceStr s.data.toList (lo.map ev) (hi.map ev) | some _ => none)
  | _, _ => none

noncomputable def popY (o : Op) (P : Program) (ev : Operand → Value) : Option Value :=
  Op.rec (motive := fun _ => Program → (Operand → Value) → Option Value)
    (fun x P ev => some (ev x))
    (fun x P ev => some (ev x))
    (fun c a b P ev => pickY (ev c) (ev a) (ev b))
    (fun _ _ _ => none)
    (fun _ _ _ _ => none)
    (fun t ps P ev => buildY P ev t ps)
    (fun _ _ _ _ _ => none)
    (fun _ _ _ _ _ _ => none)
    (fun _ _ _ _ => none)
    (fun _ _ _ _ _ => none)
    (fun _ _ _ => none)
    (fun _ _ _ => none)
    (fun x P ev => nilY (ev x))
    (fun op t x y _ P ev => binY P op t (ev x) (ev y))
    (fun op _ x P ev => unY P op (ev x))
    (fun src dst x P ev => convY P src dst (ev x))
    (fun _ _ _ _ => none)
    (fun t x P ev => ifaceY P t (ev x))
    (fun fn first captured P ev => some (.func fn (first.map ev) (captured.map ev)))
    (fun _ _ _ _ => none)
    (fun _ _ _ _ => none)
    (fun _ _ _ _ _ => none)
    (fun t x lo hi mx P ev => sliceY P ev t (ev x) lo hi mx)
    (fun s x f P ev => fieldAddrY P s (ev x) f)
    (fun t x f P ev => prun P (Instr.field t (ev x) f))
    (fun t x i P ev => indexAddrY P t (ev x) (ev i))
    (fun t x i P ev => indexY P t (ev x) (ev i))
    (fun _ _ _ _ _ _ => none)
    (fun _ _ _ _ _ _ => none)
    (fun _ _ _ _ _ => none)
    (fun _ _ _ _ _ _ => none)
    (fun _ _ _ _ => none)
    (fun _ _ _ _ => none)
    (fun _ _ _ => none)
    (fun _ _ _ _ _ _ => none)
    (fun x i P ev => extractY (ev x) i)
    (fun cl P ev => popCall P ev cl)
    (fun _ _ _ => none)
    (fun _ _ _ => none)
    (fun _ _ _ => none)
    (fun _ _ _ _ => none)
    (fun _ _ _ _ _ => none)
    (fun _ _ _ _ => none) o P ev
theorem popY_eq (P : Program) (ev : Operand → Value) (o : Oper) : popY o.op P ev = popW P ev o := by
  obtain ⟨dst, op, ty, pos, after, guard⟩ := o
  cases op <;> rfl

noncomputable def allocA (elem : TypeId) (cells : List Value) (exact : Bool) (s : St) (k : Nat → St → Option (ANext × St)) : Option (ANext × St) :=
  kNat s.next fun n => bif Nat.blt n 4000000 then k n { next := n + 1, mw := s.mw, heap := setA (some ⟨cells, elem, exact⟩) s.heap n } else none
theorem allocA_eq : allocA = alloc := by
  funext elem cells exact s k
  unfold allocA alloc
  simp only [kNat_eq, fNat_eq, setA_eq]
noncomputable def cellsA (h : TA) (a : Addr) (n : Nat) : Option (List Value) :=
  Option.rec (motive := fun _ => Option (List Value)) none (fun o => takeN n (dropN a.off o.cells)) (getA h a.block)
theorem cellsA_eq (h : TA) (a : Addr) (n : Nat) : cellsA h a n = cellsAt h a n := by
  unfold cellsA cellsAt
  rw [getA_eq]
  cases h.get a.block <;> rfl
noncomputable def writeA (s : St) (a : Addr) (vs : List Value) : Option St :=
  match getA s.heap a.block with
  | some o => bif full vs then bif allL oneCell vs then (match overlay o.cells a.off vs with
    | some cs => some { next := s.next, mw := Nat.min s.mw a.block, heap := setA (some ⟨cs, o.elem, o.exact⟩) s.heap a.block }
    | none => none) else none else none
  | none => none
theorem writeA_eq (s : St) (a : Addr) (vs : List Value) : writeA s a vs = writeAt s a vs := by
  unfold writeA writeAt
  rw [getA_eq]
  cases s.heap.get a.block with
  | none => rfl
  | some o =>
    simp only [setA_eq]
    cases full vs <;> cases allL oneCell vs <;> first | rfl | (cases overlay o.cells a.off vs <;> rfl)

noncomputable def allocY (E : Env) (t : TypeId) (s : St) : Option (ANext × St) := match zero? E.P t with
  | some z => bif allL ground0 z then allocA t z true s (fun id s => some (.val (.pointer (some ⟨id, 0, none⟩)), s)) else none
  | none => none
noncomputable def boxY (t : TypeId) (v : Value) (s : St) : Option (ANext × St) := allocA t v.cells.toList true s fun id s => some (.val (.pointer (some ⟨id, 0, none⟩)), s)
noncomputable def buildSliceY (E : Env) (ev : Operand → Value) (t : TypeId) (len : Nat) (parts : Array (Nat × Operand)) (s : St) : Option (ANext × St) :=
  hopW E ev ⟨none, .buildSlice t len parts, t, "", #[], none⟩ s
noncomputable def loadY (E : Env) (t : TypeId) (v : Value) (s : St) : Option (ANext × St) := match v, isAgg? E.P t, size? E.P t with
  | .pointer (some a), some true, some sz => (match cellsA s.heap a sz with | some cs => some (.val (.agg cs.toArray), s) | none => none)
  | .pointer (some a), some false, some _ => (match cellsA s.heap a 1 with | some [v] => some (.val v, s) | _ => none)
  | _, _, _ => none
noncomputable def storeY (E : Env) (t : TypeId) (a x : Value) (s : St) : Option (ANext × St) := match a, size? E.P t with
  | .pointer (some a), some sz =>
    let cs := x.cells.toList
    bif Nat.beq (lenN cs 0) sz then (match writeA s a cs with | some s => some (.val undef, s) | none => none) else none
  | _, _ => none
noncomputable def makeSliceY (E : Env) (t : TypeId) (l c : Value) (s : St) : Option (ANext × St) := match l, c, E.P.underlying t with
  | .int .i64 (.ofNat l), .int .i64 (.ofNat c), some (.slice e) => (match E.P.info? e with
    | some i => (match i.zero with
      | some z => bif Nat.ble l c && small c && Nat.ble i.bytes 4096 && Nat.beq z.cells.size i.size && Nat.blt 0 i.size && allL ground0 z.cells.toList then
          alloc e (reps z.cells.toList c) true s fun id s => some (.val (.slice (some ⟨id, 0, none⟩) l c), s) else none
      | none => none)
    | none => none)
  | _, _, _ => none
noncomputable def hopSliceY (E : Env) (ev : Operand → Value) (t : TypeId) (v : Value) (lo hi mx : Option Operand) (s : St) : Option (ANext × St) := match v, E.P.underlying t with
  | .slice a len cap, some (.slice e) => (match size? E.P e with
    | some sz => (match sliceOf E.P (isExact s.heap a) sz a len cap (lo.map ev) (hi.map ev) (mx.map ev) with | some v => some (.val v, s) | none => none)
    | none => none)
  | _, _ => none
noncomputable def hopConvY (E : Env) (src dst : TypeId) (v : Value) (s : St) : Option (ANext × St) := match v, E.P.underlying src, E.P.underlying dst with
  | .string b, some .string, some (.slice e) => (match E.P.underlying e, size? E.P e with
    | some (.int .u8), some 1 => alloc e (b.data.toList.map fun b => .int .u8 (.ofNat b.toNat)) false s fun id s =>
        let n := lenN b.data.toList 0
        some (.val (.slice (some ⟨id, 0, none⟩) n n), s)
    | _, _ => none)
  | .slice a len _, some (.slice e), some .string => (match E.P.underlying e with
    | some (.int .u8) => (match firstOf s.heap 1 len (.slice a len len) with
      | some l => (match toBytes l with | some r => some (.val (.string ⟨r.toArray⟩), s) | none => none)
      | none => none)
    | _ => none)
  | .slice (some a) len cap, some (.slice _), some (.slice e) =>
    bif Nat.beq src dst then (match s.heap.get a.block, E.P.underlying e with
      | some _, some (.int .u8) => some (.val (.slice (some a) len cap), { next := s.next, mw := Nat.min s.mw a.block, heap := s.heap })
      | _, _ => none) else none
  | _, _, _ => none

noncomputable def hopY (o : Op) (E : Env) (ev : Operand → Value) (s : St) : Option (ANext × St) :=
  Op.rec (motive := fun _ => Env → (Operand → Value) → St → Option (ANext × St))
    (fun _ _ _ _ => none)
    (fun _ _ _ _ => none)
    (fun _ _ _ _ _ _ => none)
    (fun t E ev s => allocY E t s)
    (fun t x E ev s => boxY t (ev x) s)
    (fun _ _ _ _ _ => none)
    (fun t len parts E ev s => buildSliceY E ev t len parts s)
    (fun _ _ _ _ _ _ _ => none)
    (fun t a E ev s => loadY E t (ev a) s)
    (fun t a x E ev s => storeY E t (ev a) (ev x) s)
    (fun _ _ _ _ => none)
    (fun _ _ _ _ => none)
    (fun _ _ _ _ => none)
    (fun _ _ _ _ _ _ _ _ => none)
    (fun _ _ _ _ _ _ => none)
    (fun src dst x E ev s => hopConvY E src dst (ev x) s)
    (fun _ _ _ _ _ => none)
    (fun _ _ _ _ _ => none)
    (fun _ _ _ _ _ _ => none)
    (fun _ _ _ _ _ => none)
    (fun _ _ _ _ _ => none)
    (fun t l c E ev s => makeSliceY E t (ev l) (ev c) s)
    (fun t x lo hi mx E ev s => hopSliceY E ev t (ev x) lo hi mx s)
    (fun _ _ _ _ _ _ => none)
    (fun _ _ _ _ _ _ => none)
    (fun _ _ _ _ _ _ => none)
    (fun _ _ _ _ _ _ => none)
    (fun _ _ _ _ _ _ _ => none)
    (fun _ _ _ _ _ _ _ => none)
    (fun _ _ _ _ _ _ => none)
    (fun _ _ _ _ _ _ _ => none)
    (fun _ _ _ _ _ => none)
    (fun _ _ _ _ _ => none)
    (fun _ _ _ _ => none)
    (fun _ _ _ _ _ _ _ => none)
    (fun _ _ _ _ _ => none)
    (fun cl E ev s => hopCall E.P ev cl s)
    (fun _ _ _ _ => none)
    (fun _ _ _ _ => none)
    (fun _ _ _ _ => none)
    (fun _ _ _ _ _ => none)
    (fun _ _ _ _ _ _ => none)
    (fun _ _ _ _ _ => none) o E ev s
theorem hopY_eq (E : Env) (ev : Operand → Value) (o : Oper) (s : St) : hopY o.op E ev s = hopW E ev o s := by
  obtain ⟨dst, op, ty, pos, after, guard⟩ := o
  cases op
  case alloc t => show allocY E t s = _; unfold allocY; rw [allocA_eq]; rfl
  case box t x => show boxY t (ev x) s = _; unfold boxY; rw [allocA_eq]; rfl
  case load t a => show loadY E t (ev a) s = _; unfold loadY; simp only [cellsA_eq]; rfl
  case store t a x => show storeY E t (ev a) (ev x) s = _; unfold storeY; simp only [writeA_eq]; rfl
  all_goals rfl

noncomputable def stillY (o : Op) (P : Program) (ev : Operand → Value) (n0 m : Nat) (h0 : T AObj) (outs : List (Nat × T AObj)) : Option (Value × Addr × Nat × List Value) :=
  Op.rec (motive := fun _ => Program → (Operand → Value) → Nat → Nat → T AObj → List (Nat × T AObj) → Option (Value × Addr × Nat × List Value))
    (fun _ _ _ _ _ _ _ => none)
    (fun _ _ _ _ _ _ _ => none)
    (fun _ _ _ _ _ _ _ _ _ => none)
    (fun _ _ _ _ _ _ _ => none)
    (fun _ _ _ _ _ _ _ _ => none)
    (fun _ _ _ _ _ _ _ _ => none)
    (fun _ _ _ _ _ _ _ _ _ => none)
    (fun _ _ _ _ _ _ _ _ _ _ => none)
    (fun t a P ev n0 m h0 outs => stillOf P ev ⟨none, .load t a, t, "", #[], none⟩ n0 m h0 outs)
    (fun _ _ _ _ _ _ _ _ _ => none)
    (fun _ _ _ _ _ _ _ => none)
    (fun _ _ _ _ _ _ _ => none)
    (fun _ _ _ _ _ _ _ => none)
    (fun _ _ _ _ _ _ _ _ _ _ _ => none)
    (fun _ _ _ _ _ _ _ _ _ => none)
    (fun _ _ _ _ _ _ _ _ _ => none)
    (fun _ _ _ _ _ _ _ _ => none)
    (fun _ _ _ _ _ _ _ _ => none)
    (fun _ _ _ _ _ _ _ _ _ => none)
    (fun _ _ _ _ _ _ _ _ => none)
    (fun _ _ _ _ _ _ _ _ => none)
    (fun _ _ _ _ _ _ _ _ _ => none)
    (fun _ _ _ _ _ _ _ _ _ _ _ => none)
    (fun _ _ _ _ _ _ _ _ _ => none)
    (fun _ _ _ _ _ _ _ _ _ => none)
    (fun _ _ _ _ _ _ _ _ _ => none)
    (fun _ _ _ _ _ _ _ _ _ => none)
    (fun _ _ _ _ _ _ _ _ _ _ => none)
    (fun _ _ _ _ _ _ _ _ _ _ => none)
    (fun _ _ _ _ _ _ _ _ _ => none)
    (fun _ _ _ _ _ _ _ _ _ _ => none)
    (fun _ _ _ _ _ _ _ _ => none)
    (fun _ _ _ _ _ _ _ _ => none)
    (fun _ _ _ _ _ _ _ => none)
    (fun _ _ _ _ _ _ _ _ _ _ => none)
    (fun _ _ _ _ _ _ _ _ => none)
    (fun _ _ _ _ _ _ _ => none)
    (fun _ _ _ _ _ _ _ => none)
    (fun _ _ _ _ _ _ _ => none)
    (fun _ _ _ _ _ _ _ => none)
    (fun _ _ _ _ _ _ _ _ => none)
    (fun _ _ _ _ _ _ _ _ _ => none)
    (fun _ _ _ _ _ _ _ _ => none) o P ev n0 m h0 outs
theorem stillY_eq (P : Program) (ev : Operand → Value) (o : Oper) (n0 m : Nat) (h0 : T AObj) (outs : List (Nat × T AObj)) : stillY o.op P ev n0 m h0 outs = stillOf P ev o n0 m h0 outs := by
  obtain ⟨dst, op, ty, pos, after, guard⟩ := o
  cases op <;> rfl

noncomputable def doOpY (E : Env) (call : CallF) (ev : Operand → Value) (o : Op) (s : St) : Option (Value × St) :=
  Option.rec (motive := fun _ => Option (Value × St)) none
    (fun r => ANext.rec (motive := fun _ => CallF → St → Option (Value × St)) (fun v _ s => some (v, s)) (fun f args call s => call f args s) r.1 call r.2) (hopY o E ev s)
theorem doOpY_eq (E : Env) (call : CallF) (ev : Operand → Value) (o : Oper) (s : St) : doOpY E call ev o.op s = doOpW E call ev o s := by
  unfold doOpY doOpW
  rw [hopY_eq]
  cases hopW E ev o s with
  | none => rfl
  | some r => obtain ⟨n, t⟩ := r; cases n <;> rfl

/-! Operations, told apart once. -/
inductive K where
  | mv (x : Operand)
  | ld (t : TypeId) (a : Operand)
  | st (t : TypeId) (a x : Operand)
  | fa (s : TypeId) (x : Operand) (f : Nat)
  | nc (x : Operand)
  | bo (op : BinOp) (t : TypeId) (x y : Operand)
  | ot (o : Op)
noncomputable def kOf (o : Op) : K :=
  Op.rec (motive := fun _ => K)
    (fun x => .mv x)
    (fun x => .mv x)
    (fun a0 a1 a2 => .ot (.pick a0 a1 a2))
    (fun a0 => .ot (.alloc a0))
    (fun a0 a1 => .ot (.box a0 a1))
    (fun a0 a1 => .ot (.build a0 a1))
    (fun a0 a1 a2 => .ot (.buildSlice a0 a1 a2))
    (fun a0 a1 a2 a3 => .ot (.insert a0 a1 a2 a3))
    (fun t a => .ld t a)
    (fun t a x => .st t a x)
    (fun a0 => .ot (.ready a0))
    (fun a0 => .ot (.waits a0))
    (fun x => .nc x)
    (fun op t x y _ => .bo op t x y)
    (fun a0 a1 a2 => .ot (.unOp a0 a1 a2))
    (fun a0 a1 a2 => .ot (.convert a0 a1 a2))
    (fun a0 a1 => .ot (.sliceToArrayPointer a0 a1))
    (fun a0 a1 => .ot (.makeInterface a0 a1))
    (fun a0 a1 a2 => .ot (.makeFunc a0 a1 a2))
    (fun a0 a1 => .ot (.makeMap a0 a1))
    (fun a0 a1 => .ot (.makeChan a0 a1))
    (fun a0 a1 a2 => .ot (.makeSlice a0 a1 a2))
    (fun a0 a1 a2 a3 a4 => .ot (.slice a0 a1 a2 a3 a4))
    (fun s x f => .fa s x f)
    (fun a0 a1 a2 => .ot (.field a0 a1 a2))
    (fun a0 a1 a2 => .ot (.indexAddr a0 a1 a2))
    (fun a0 a1 a2 => .ot (.index a0 a1 a2))
    (fun a0 a1 a2 a3 => .ot (.lookup a0 a1 a2 a3))
    (fun a0 a1 a2 a3 => .ot (.mapUpdate a0 a1 a2 a3))
    (fun a0 a1 a2 => .ot (.mapEntry a0 a1 a2))
    (fun a0 a1 a2 a3 => .ot (.entryStore a0 a1 a2 a3))
    (fun a0 a1 => .ot (.range a0 a1))
    (fun a0 a1 => .ot (.next a0 a1))
    (fun a0 => .ot (.entry a0))
    (fun a0 a1 a2 a3 => .ot (.typeAssert a0 a1 a2 a3))
    (fun a0 a1 => .ot (.extract a0 a1))
    (fun a0 => .ot (.call a0))
    (fun a0 => .ot (.go a0))
    (fun a0 => .ot (.defer a0))
    (fun a0 => .ot (.panic a0))
    (fun a0 a1 => .ot (.send a0 a1))
    (fun a0 a1 a2 => .ot (.recv a0 a1 a2))
    (fun a0 a1 => .ot (.select a0 a1)) o

/-- What an operation gives: nothing; a value that is at hand; one to be worked out. -/
inductive SR where
  | no
  | ok (v : Value) (s : St)
  | fv (v : Value) (s : St)
noncomputable def srVal (s : St) (o : Option Value) : SR := Option.rec (motive := fun _ => St → SR) (fun _ => .no) (fun v s => .fv v s) o s
noncomputable def srOk (s : St) (o : Option Value) : SR := Option.rec (motive := fun _ => St → SR) (fun _ => .no) (fun v s => .ok v s) o s
noncomputable def srPair (o : Option (Value × St)) : SR := Option.rec (motive := fun _ => SR) .no (fun r => .fv r.1 r.2) o
/-- What is moved. -/
noncomputable def mvY (Z : Nat) (m : TM) (x : Operand) (s : St) : SR :=
  Operand.rec (motive := fun _ => Nat → TM → St → SR)
    (fun i _ m s => Option.rec (motive := fun _ => St → SR) (fun s => .ok undef s) (fun v s => .ok v s) (getV m.t i) s)
    (fun v Z m s => .fv (aevalY Z m (.const v)) s) (fun g Z m s => .fv (aevalY Z m (.global g)) s) (fun f Z m s => .fv (aevalY Z m (.func f)) s) x Z m s
noncomputable def otY (E : Env) (call : CallF) (tm : TM) (s : St) (o : Op) : SR :=
  Option.rec (motive := fun _ => SR) (srPair (doOpY E call (aevalY (zId E.P) tm) o s)) (fun v => .fv v s) (popY o E.P (aevalY (zId E.P) tm))
noncomputable def ldY (E : Env) (t : TypeId) (v : Value) (s : St) : SR := match v, isAgg? E.P t, size? E.P t with
  | .pointer (some a), some true, some sz => (match cellsA s.heap a sz with | some cs => .ok (.agg cs.toArray) s | none => .no)
  | .pointer (some a), some false, some _ => (match cellsA s.heap a 1 with | some [v] => .fv v s | _ => .no)
  | _, _, _ => .no
noncomputable def stY (E : Env) (t : TypeId) (a x : Value) (s : St) : SR := match a, size? E.P t with
  | .pointer (some a), some sz =>
    let cs := x.cells.toList
    bif Nat.beq (lenN cs 0) sz then (match writeA s a cs with | some s => .ok undef s | none => .no) else .no
  | _, _ => .no
noncomputable def stepY (k : K) (E : Env) (call : CallF) (tm : TM) (s : St) : SR :=
  K.rec (motive := fun _ => Env → CallF → TM → St → SR)
    (fun x E _ tm s => mvY (zId E.P) tm x s)
    (fun t a E _ tm s => ldY E t (aevalY (zId E.P) tm a) s)
    (fun t a x E _ tm s => stY E t (aevalY (zId E.P) tm a) (aevalY (zId E.P) tm x) s)
    (fun u x f E _ tm s => srVal s (fieldAddrY E.P u (aevalY (zId E.P) tm x) f))
    (fun x E _ tm s => srOk s (nilY (aevalY (zId E.P) tm x)))
    (fun op t x y E _ tm s => srVal s (binY E.P op t (aevalY (zId E.P) tm x) (aevalY (zId E.P) tm y)))
    (fun o E call tm s => otY E call tm s o) k E call tm s

def SR.res : SR → Option (Value × St)
  | .no => none
  | .ok v s => some (v, s)
  | .fv v s => some (v, s)

theorem srVal_res (s : St) (o : Option Value) : (srVal s o).res = o.map fun v => (v, s) := by cases o <;> rfl
theorem srOk_res (s : St) (o : Option Value) : (srOk s o).res = o.map fun v => (v, s) := by cases o <;> rfl

/-- What the other runner makes of an operation. -/
noncomputable def stepW (E : Env) (call : CallF) (ev : Operand → Value) (o : Oper) (s : St) : Option (Value × St) := match popW E.P ev o with
  | some v => some (v, s)
  | none => doOpW E call ev o s

theorem stepW_ot (E : Env) (call : CallF) (tm : TM) (o : Oper) (s : St) : (otY E call tm s o.op).res = stepW E call (aevalW (zId E.P) tm) o s := by
  unfold otY stepW
  rw [popY_eq, doOpY_eq, aevalY_eq]
  cases popW E.P (aevalW (zId E.P) tm) o with
  | some v => rfl
  | none =>
    show (srPair (doOpW E call (aevalW (zId E.P) tm) o s)).res = doOpW E call (aevalW (zId E.P) tm) o s
    cases doOpW E call (aevalW (zId E.P) tm) o s <;> rfl

theorem mvY_res (Z : Nat) (m : TM) (x : Operand) (s : St) : (mvY Z m x s).res = some (aevalW Z m x, s) := by
  rw [← aevalY_eq]
  cases x with
  | tmp i =>
    show (Option.rec (motive := fun _ => St → SR) (fun s => .ok undef s) (fun v s => .ok v s) (getV m.t i) s : SR).res = some (Option.rec (motive := fun _ => Value) undef (fun v => v) (getV m.t i), s)
    cases getV m.t i <;> rfl
  | _ => rfl

theorem stepY_res (E : Env) (call : CallF) (tm : TM) (o : Oper) (s : St) : (stepY (kOf o.op) E call tm s).res = stepW E call (aevalW (zId E.P) tm) o s := by
  have hot := stepW_ot E call tm o s
  obtain ⟨dst, op, ty, pos, after, guard⟩ := o
  cases op
  case move x => exact (mvY_res _ _ _ _).trans rfl
  case assign x => exact (mvY_res _ _ _ _).trans rfl
  case load t a =>
    show (ldY E t (aevalY (zId E.P) tm a) s).res = _
    rw [aevalY_eq]
    have e : stepW E call (aevalW (zId E.P) tm) ⟨dst, .load t a, ty, pos, after, guard⟩ s = doOpW E call (aevalW (zId E.P) tm) ⟨dst, .load t a, ty, pos, after, guard⟩ s := rfl
    rw [e, ← doOpY_eq]
    unfold doOpY
    show _ = Option.rec (motive := fun _ => Option (Value × St)) none (fun r => ANext.rec (motive := fun _ => CallF → St → Option (Value × St)) (fun v _ s => some (v, s)) (fun f args call s => call f args s) r.1 call r.2) (loadY E t (aevalW (zId E.P) tm a) s)
    unfold ldY loadY
    split
    · split <;> rfl
    · split <;> rfl
    · rfl
  case store t a x =>
    show (stY E t (aevalY (zId E.P) tm a) (aevalY (zId E.P) tm x) s).res = _
    rw [aevalY_eq]
    have e : stepW E call (aevalW (zId E.P) tm) ⟨dst, .store t a x, ty, pos, after, guard⟩ s = doOpW E call (aevalW (zId E.P) tm) ⟨dst, .store t a x, ty, pos, after, guard⟩ s := rfl
    rw [e, ← doOpY_eq]
    unfold doOpY
    show _ = Option.rec (motive := fun _ => Option (Value × St)) none (fun r => ANext.rec (motive := fun _ => CallF → St → Option (Value × St)) (fun v _ s => some (v, s)) (fun f args call s => call f args s) r.1 call r.2) (storeY E t (aevalW (zId E.P) tm a) (aevalW (zId E.P) tm x) s)
    unfold stY storeY
    split
    · simp only
      cases Nat.beq _ _ with
      | false => rfl
      | true =>
        rw [cond_true, cond_true]
        split <;> rfl
    · rfl
  case fieldAddr u x f =>
    show (srVal s (fieldAddrY E.P u (aevalY (zId E.P) tm x) f)).res = _
    rw [srVal_res, aevalY_eq]
    have e : popW E.P (aevalW (zId E.P) tm) ⟨dst, .fieldAddr u x f, ty, pos, after, guard⟩ = fieldAddrY E.P u (aevalW (zId E.P) tm x) f := rfl
    unfold stepW
    rw [e]
    cases fieldAddrY E.P u (aevalW (zId E.P) tm x) f <;> rfl
  case nilCheck x =>
    show (srOk s (nilY (aevalY (zId E.P) tm x))).res = _
    rw [srOk_res, aevalY_eq]
    have e : popW E.P (aevalW (zId E.P) tm) ⟨dst, .nilCheck x, ty, pos, after, guard⟩ = nilY (aevalW (zId E.P) tm x) := rfl
    unfold stepW
    rw [e]
    cases nilY (aevalW (zId E.P) tm x) <;> rfl
  case binOp bop t x y yt =>
    show (srVal s (binY E.P bop t (aevalY (zId E.P) tm x) (aevalY (zId E.P) tm y))).res = _
    rw [srVal_res, aevalY_eq]
    have e : popW E.P (aevalW (zId E.P) tm) ⟨dst, .binOp bop t x y yt, ty, pos, after, guard⟩ = binY E.P bop t (aevalW (zId E.P) tm x) (aevalW (zId E.P) tm y) := rfl
    unfold stepW
    rw [e]
    cases binY E.P bop t (aevalW (zId E.P) tm x) (aevalW (zId E.P) tm y) <;> rfl
  all_goals exact hot

noncomputable def runOpsY (E : Env) (call : CallF) (ops : List Oper) (rest : List Oper) : TM → St → ROps :=
  List.rec (motive := fun _ => TM → St → ROps) (fun tm s => some (tm, s))
    (fun o _ ih tm s => Bool.rec (motive := fun _ => ROps) (ih (putY o.dst tm undef) s)
      (SR.rec (motive := fun _ => Option Tmp → TM → (TM → St → ROps) → ROps) (fun _ _ _ => none) (fun v s d tm ih => ih (putY d tm v) s) (fun v s d tm ih => kVal v fun v => ih (putY d tm v) s) (stepY (kOf o.op) E call tm s) o.dst tm ih)
      (wantedY ops tm o)) rest

theorem runOpsY_eq (E : Env) {call call2 : CallF} (hc : call = call2) (ops : List Oper) : ∀ (rest : List Oper) (tm : TM) (s : St), runOpsY E call ops rest tm s = runOpsW E call2 ops rest tm s
  | [], tm, s => rfl
  | o :: rest, tm, s => by
    subst hc
    unfold runOpsW
    have e1 : runOpsY E call ops (o :: rest) tm s = Bool.rec (motive := fun _ => ROps) (runOpsY E call ops rest (putY o.dst tm undef) s)
      (SR.rec (motive := fun _ => Option Tmp → TM → (TM → St → ROps) → ROps) (fun _ _ _ => none) (fun v s d tm ih => ih (putY d tm v) s) (fun v s d tm ih => kVal v fun v => ih (putY d tm v) s) (stepY (kOf o.op) E call tm s) o.dst tm (runOpsY E call ops rest))
      (wantedY ops tm o) := rfl
    have ih := runOpsY_eq E (call := call) rfl ops rest
    rw [e1, brec, wantedY_eq]
    cases wantedW ops tm o with
    | false => rw [cond_false, cond_false, ih, putY_eq]
    | true =>
      rw [cond_true, cond_true]
      have hs := stepY_res E call tm o s
      have fin : ∀ (v : Value) (s1 : St), (stepY (kOf o.op) E call tm s).res = some (v, s1) →
          SR.rec (motive := fun _ => Option Tmp → TM → (TM → St → ROps) → ROps) (fun _ _ _ => none) (fun v s d tm ih => ih (putY d tm v) s) (fun v s d tm ih => kVal v fun v => ih (putY d tm v) s) (stepY (kOf o.op) E call tm s) o.dst tm (runOpsY E call ops rest) =
            runOpsW E call ops rest (putW tm o.dst v) s1 := by
        intro v s1 he
        cases hy : stepY (kOf o.op) E call tm s with
        | no => rw [hy] at he; cases he
        | ok v2 s2 =>
          rw [hy] at he
          simp only [SR.res, Option.some.injEq, Prod.mk.injEq] at he
          obtain ⟨rfl, rfl⟩ := he
          show runOpsY E call ops rest (putY o.dst tm v2) s2 = _
          rw [ih, putY_eq]
        | fv v2 s2 =>
          rw [hy] at he
          simp only [SR.res, Option.some.injEq, Prod.mk.injEq] at he
          obtain ⟨rfl, rfl⟩ := he
          show (kVal v2 fun v => runOpsY E call ops rest (putY o.dst tm v) s2) = _
          rw [kVal_eq, ih, putY_eq]
      unfold stepW at hs
      cases hp : popW E.P (aevalW (zId E.P) tm) o with
      | some v =>
        rw [hp] at hs
        simp only [fVal_eq] at hs ⊢
        exact fin v s hs
      | none =>
        rw [hp] at hs
        simp only at hs ⊢
        cases hd : doOpW E call (aevalW (zId E.P) tm) o s with
        | none =>
          rw [hd] at hs
          cases hy : stepY (kOf o.op) E call tm s with
          | no => rfl
          | ok v2 s2 => rw [hy] at hs; cases hs
          | fv v2 s2 => rw [hy] at hs; cases hs
        | some r =>
          obtain ⟨v, s1⟩ := r
          rw [hd] at hs
          simp only [fVal_eq]
          exact fin v s1 hs

noncomputable def drawnY (E : Env) (call : CallF) (n0 : Nat) (o : Oper) (ih : List Nat → Nat → Nat → Bool → T AObj → List (Nat × T AObj) → List Rdg → List Delta → TM → St → ROps)
    (ms : List Nat) (i touched : Nat) (seq : Bool) (base : T AObj) (outs : List (Nat × T AObj)) (reads : List Rdg) (deltas : List Delta) (tm : TM) (s : St) : ROps :=
  match stillY o.op E.P (aevalY (zId E.P) tm) n0 (headN ms) base outs with
  | some (v, ad, n, cs) => kVal v fun v => ih (tailN ms) (Nat.succ i) touched seq base outs (⟨i, ad, n, cs⟩ :: reads) deltas (putY o.dst tm v) s
  | none =>
    let m := headN ms
    let all := Nat.beq (Nat.land touched m) touched
    bif (bif seq then !all else false) then none
    else
      let h := bif all then s.heap else seen m base deltas
      match doOpY E call (aevalY (zId E.P) tm) o.op { next := s.next, mw := s.next, heap := h } with
      | some (v, s') => kVal v fun v =>
          let lo := Nat.min s'.mw s.next
          bif (bif seq then false else bif Nat.ble n0 s'.mw then bif kept h s'.heap lo (s.next - lo) then allL (pairOK2 m h s'.heap lo s.next) deltas else false else false) then
            ih (tailN ms) (Nat.succ i) (Nat.lor touched (Nat.shiftLeft 1 i)) false base outs reads (⟨i, lo, s'.next, s'.heap, h⟩ :: deltas) (putY o.dst tm v)
              { next := s'.next, mw := Nat.min s.mw s'.mw, heap := bif all then s'.heap else merge lo s'.next s'.heap (s'.next - lo) s.heap }
          else bif (bif all then allL (readOK m s'.heap) reads else false) then
            ih (tailN ms) (Nat.succ i) (Nat.lor touched (Nat.shiftLeft 1 i)) true base ((i, s'.heap) :: outs) reads [] (putY o.dst tm v) { next := s'.next, mw := Nat.min s.mw s'.mw, heap := s'.heap }
          else none
      | none => none

noncomputable def runDrawnY (E : Env) (call : CallF) (n0 : Nat) (ops : List Oper) (rest : List Oper) : List Nat → Nat → Nat → Bool → T AObj → List (Nat × T AObj) → List Rdg → List Delta → TM → St → ROps :=
  List.rec (motive := fun _ => List Nat → Nat → Nat → Bool → T AObj → List (Nat × T AObj) → List Rdg → List Delta → TM → St → ROps) (fun _ _ _ _ _ _ _ _ tm s => some (tm, s))
    (fun o _ ih ms i touched seq base outs reads deltas tm s => Bool.rec (motive := fun _ => ROps) (ih (tailN ms) (Nat.succ i) touched seq base outs reads deltas (putY o.dst tm undef) s)
      (Option.rec (motive := fun _ => ROps) (drawnY E call n0 o ih ms i touched seq base outs reads deltas tm s)
        (fun v => kVal v fun v => ih (tailN ms) (Nat.succ i) touched seq base outs reads deltas (putY o.dst tm v) s) (popY o.op E.P (aevalY (zId E.P) tm)))
      (wantedY ops tm o)) rest

theorem runDrawnY_eq (E : Env) {call call2 : CallF} (hc : call = call2) (n0 : Nat) (ops : List Oper) : ∀ (rest : List Oper) (ms : List Nat) (i touched : Nat) (seq : Bool) (base : T AObj) (outs : List (Nat × T AObj)) (reads : List Rdg) (deltas : List Delta) (tm : TM) (s : St),
    runDrawnY E call n0 ops rest ms i touched seq base outs reads deltas tm s = runDrawnW E call2 n0 ops rest ms i touched seq base outs reads deltas tm s
  | [], ms, i, touched, seq, base, outs, reads, deltas, tm, s => rfl
  | o :: rest, ms, i, touched, seq, base, outs, reads, deltas, tm, s => by
    subst hc
    have ih : runDrawnY E call n0 ops rest = runDrawnW E call n0 ops rest := by
      funext ms i touched seq base outs reads deltas tm s
      exact runDrawnY_eq E rfl n0 ops rest ms i touched seq base outs reads deltas tm s
    have e1 : runDrawnY E call n0 ops (o :: rest) ms i touched seq base outs reads deltas tm s = Bool.rec (motive := fun _ => ROps) (runDrawnY E call n0 ops rest (tailN ms) (Nat.succ i) touched seq base outs reads deltas (putY o.dst tm undef) s)
      (Option.rec (motive := fun _ => ROps) (drawnY E call n0 o (runDrawnY E call n0 ops rest) ms i touched seq base outs reads deltas tm s)
        (fun v => kVal v fun v => runDrawnY E call n0 ops rest (tailN ms) (Nat.succ i) touched seq base outs reads deltas (putY o.dst tm v) s) (popY o.op E.P (aevalY (zId E.P) tm)))
      (wantedY ops tm o) := rfl
    rw [e1, brec, wantedY_eq, popY_eq, aevalY_eq, ih]
    conv => rhs; unfold runDrawnW
    cases wantedW ops tm o with
    | false => rw [cond_false, cond_false, putY_eq]
    | true =>
      rw [cond_true, cond_true]
      cases popW E.P (aevalW (zId E.P) tm) o with
      | some v =>
        show kVal v _ = fVal v _
        rw [kVal_eq, fVal_eq, putY_eq]
      | none =>
        show drawnY E call n0 o (runDrawnW E call n0 ops rest) ms i touched seq base outs reads deltas tm s = _
        unfold drawnY
        simp only [stillY_eq, aevalY_eq, doOpY_eq, kVal_eq, fVal_eq, putY_eq, Nat.succ_eq_add_one]
        cases stillOf E.P (aevalW (zId E.P) tm) o n0 (headN ms) base outs with
        | some r => rfl
        | none =>
          simp only
          cases hb : (bif seq then !(Nat.beq (Nat.land touched (headN ms)) touched) else false) with
          | true => rfl
          | false =>
            rw [cond_false, cond_false]
            generalize doOpW E call (aevalW (zId E.P) tm) o _ = r
            cases r <;> rfl

noncomputable def seqY (r : AResW) (k : TM → St → AResW) : AResW := match r with
  | some (.normal, tm, s) => k tm s
  | r => r
noncomputable def iterY (f : TM → St → AResW) (n : Nat) : TM → St → AResW :=
  Nat.rec (motive := fun _ => TM → St → AResW) (fun _ _ => none) (fun _ ih tm s => seqY (f tm s) ih) n
theorem iterY_eq (f : TM → St → AResW) : ∀ (n : Nat) (tm : TM) (s : St), iterY f n tm s = iterW f n tm s
  | 0, _, _ => rfl
  | n + 1, tm, s => by
    have ih : iterY f n = iterW f n := by funext tm s; exact iterY_eq f n tm s
    show seqY (f tm s) (iterY f n) = _
    rw [ih]
    rfl
noncomputable def condY (v : Value) (t e : TM → St → AResW) (tm : TM) (s : St) : AResW := match v with
  | .bool true => t tm s
  | .bool false => e tm s
  | _ => none
noncomputable def blockY (id : Nat) (r : AResW) : AResW := match r with
  | some (.exit k, tm, s) => bif Nat.beq k id then some (.normal, tm, s) else some (.exit k, tm, s)
  | r => r
noncomputable def doneY (r : ROps) : AResW := match r with
  | some (tm, s) => some (.normal, tm, s)
  | none => none
noncomputable def regionY (E : Env) (call : CallF) (ops : Array Oper) (draw : Bool) (tm : TM) (s : St) : AResW :=
  bif opsOK (zId E.P) ops.toList then bif draw then
    bif quickOK ops then doneY (runDrawnY E call s.next ops.toList ops.toList (masksT ops.toList 0 .leaf) 0 0 false s.heap [] [] [] tm s) else none
  else doneY (runOpsY E call ops.toList ops.toList tm s) else none

noncomputable def execY (E : Env) (call : CallF) (c : Code) : TM → St → AResW :=
  Code.rec (motive := fun _ => TM → St → AResW)
    (fun tm s => some (.normal, tm, s))
    (fun _ ops draw tm s => regionY E call ops draw tm s)
    (fun _ _ iha ihb tm s => seqY (iha tm s) ihb)
    (fun c _ _ iht ihe tm s => condY (aevalY (zId E.P) tm c) iht ihe tm s)
    (fun id _ ih tm s => blockY id (ih tm s))
    (fun _ ih tm s => iterY ih rounds tm s)
    (fun _ _ _ _ _ _ _ _ => none)
    (fun id tm s => some (.exit id, tm, s))
    (fun _ _ _ _ => none) (fun _ _ _ => none) (fun _ _ _ => none)
    (fun tm s => some (.ret, tm, s))
    (fun _ _ _ => none) c

theorem execY_eq (E : Env) {call call2 : CallF} (hc : call = call2) (c : Code) : execY E call c = execW E call2 c := by
  subst hc
  induction c with
  | region id ops draw =>
    funext tm s
    show regionY E call ops draw tm s = _
    unfold regionY execW
    rw [runDrawnY_eq E rfl, runOpsY_eq E rfl]
    rfl
  | seq a b iha ihb =>
    funext tm s
    show seqY (execY E call a tm s) (execY E call b) = _
    rw [iha, ihb]
    rfl
  | cond c t e iht ihe =>
    funext tm s
    show condY (aevalY (zId E.P) tm c) (execY E call t) (execY E call e) tm s = _
    rw [iht, ihe, aevalY_eq]
    rfl
  | block id b ih =>
    funext tm s
    show blockY id (execY E call b tm s) = _
    rw [ih]
    rfl
  | loop b ih =>
    funext tm s
    show iterY (execY E call b) rounds tm s = _
    rw [iterY_eq, ih]
    rfl
  | _ => rfl

noncomputable def finishY (E : Env) (fn : Func) (s : St) (r : AResW) : Option (Value × St) := match r with
  | some (x, tm, s') =>
    (match x with
    | .exit _ => none
    | _ => match resultsOfW E.P tm s' fn.results.toList with
      | some l =>
        let v := one l
        bif Nat.ble s.next s'.mw then
          (bif ground2 v then some (v, { next := s'.next, mw := s.mw, heap := s.heap })
          else some (v, { next := s'.next, mw := s.mw, heap := reach s.next s'.heap 1000000 [v] s.heap }))
        else some (v, { next := s'.next, mw := Nat.min s.mw s'.mw, heap := s'.heap })
      | none => none)
  | none => none
noncomputable def bodyY (E : Env) (call : CallF) (f : FuncId) (args : List Value) (s : St) : Option (Value × St) :=
  match E.fn f with
  | none => none
  | some fn => match fn.body with
    | none => bif fn.origin == "" then (match ext fn.name args s with | some v => some (v, s) | none => none) else none
    | some c =>
      bif (bif E.known f then noArg args else false) then some (.bool true, s) else
      match E.orc f args s with
      | some r => some r
      | none =>
      bif Nat.ble (lenN args 0) 4000 && Nat.ble fn.ntmps 4000000 then
        finishY E fn s (kNat (lenN args 0 + (fn.ntmps - lenN args 0)) fun n => execY E call c ⟨fillW args 0 .leaf, n⟩ { next := s.next, mw := s.next, heap := s.heap })
      else none
noncomputable def callY (E : Env) (d : Nat) : CallF :=
  Nat.rec (motive := fun _ => CallF) (fun _ _ _ => none) (fun _ ih f args s => bodyY E ih f args s) d

theorem callY_eq (E : Env) : ∀ d, callY E d = Canon.callW E d
  | 0 => rfl
  | d + 1 => by
    funext f args s
    show bodyY E (callY E d) f args s = _
    unfold bodyY Canon.callW
    rw [callY_eq E d]
    cases E.fn f with
    | none => rfl
    | some fn =>
      simp only
      cases fn.body with
      | none => rfl
      | some c =>
        simp only [kNat_eq, fNat_eq, execY_eq E (call := Canon.callW E d) rfl]
        rfl

/-- So many runs, from the n-th on, of what mk names. -/
noncomputable def rowsY (E : Env) (d : Nat) (f : FuncId) (mk : Nat → List Value) : Nat → Nat → Bool
  | _, 0 => true
  | n, m + 1 => kNat n fun n => bif isTrue (callY E d f (mk n) (start E.P)) then rowsY E d f mk (n + 1) m else false

theorem rowsY_eq (E : Env) (d : Nat) (f : FuncId) (mk : Nat → List Value) : ∀ (m n : Nat), rowsY E d f mk n m = rowsBy E d f mk n m
  | 0, n => rfl
  | m + 1, n => by
    unfold rowsY rowsBy
    rw [kNat_eq, fNat_eq, callY_eq, rowsY_eq E d f mk m (n + 1)]

theorem nextY {E : Env} {d : Nat} {f : FuncId} {mk : Nat → List Value} {n m : Nat} (h : ∀ k, k < n → isTrue (callN E d f (mk k) (start E.P)) = true) (hr : rowsY E d f mk n m = true) :
    ∀ k, k < n + m → isTrue (callN E d f (mk k) (start E.P)) = true := rows_next h (by rw [← rowsY_eq]; exact hr)

theorem Fit.plainY {P : Program} (h : Fit P) {d : Nat} {f : FuncId} (hb : hasBody P f = true) (ht : isTrue (callY (envOf P) d f [] (start P)) = true) : Plain P f :=
  h.plainW hb (by rw [← callY_eq]; exact ht)

end Go.Proofs.Ytlkjdclhgmkndaa.Canon

namespace Go.Proofs.Ytlkjdclhgmkndaa.Canon
set_option linter.unusedVariables false
set_option linter.unusedSimpArgs false
open Go.RowKit

theorem bif_tt {a b : Bool} (h : (bif a then b else false) = true) : a = true ∧ b = true := by cases a <;> simp_all

/-! What is the same, told by running. -/
def fidEq : Fn → Fn → Bool
  | .func a, .func b => Nat.beq a b
  | _, _ => false
theorem fidEq_spec {a b : Fn} (h : fidEq a b = true) : a = b := by
  unfold fidEq at h
  split at h
  · rw [Nat.eq_of_beq_eq_true h]
  · cases h

/-- Two values, that may bear names. -/
def leafEq : Value → Value → Bool
  | .chan (some a), .chan (some b) => Nat.beq a b
  | .iface t (.map none), .iface u (.map none) => Nat.beq t u
  | a, b => sameV a b
theorem leafEq_spec {a b : Value} (h : leafEq a b = true) : a = b := by
  unfold leafEq at h
  split at h
  · rw [Nat.eq_of_beq_eq_true h]
  · rw [Nat.eq_of_beq_eq_true h]
  · exact sameV_spec h
def leafL : List Value → List Value → Bool
  | [], [] => true
  | a :: l, b :: r => bif leafEq a b then leafL l r else false
  | _, _ => false
theorem leafL_spec : ∀ {l r : List Value}, leafL l r = true → l = r
  | [], [], _ => rfl
  | a :: l, b :: r, h => by
    unfold leafL at h
    obtain ⟨h1, h⟩ := bif_tt h
    rw [leafEq_spec h1, leafL_spec h]
  | [], _ :: _, h => by cases h
  | _ :: _, [], h => by cases h

/-- Two values, of which lists of others may be part. -/
def vEq : Value → Value → Bool
  | .func f a b, .func g c d => bif fidEq f g then bif sameL a.toList c.toList then sameL b.toList d.toList else false else false
  | .tuple a, .tuple b => leafL a.toList b.toList
  | .agg a, .agg b => leafL a.toList b.toList
  | .complex .f64 l k, .complex .f64 l' k' => bif Nat.beq l l' then Nat.beq k k' else false
  | .chan (some a), .chan (some b) => Nat.beq a b
  | .iface t (.map none), .iface u (.map none) => Nat.beq t u
  | a, b => sameV a b
theorem arr_eq {a b : Array Value} (h : sameL a.toList b.toList = true) : a = b := Array.toList_inj.1 (sameL_spec h)
theorem vEq_spec {a b : Value} (h : vEq a b = true) : a = b := by
  unfold vEq at h
  split at h
  · obtain ⟨h1, h⟩ := bif_tt h
    obtain ⟨h2, h⟩ := bif_tt h
    rw [fidEq_spec h1, arr_eq h2, arr_eq h]
  · rw [Array.toList_inj.1 (leafL_spec h)]
  · rw [Array.toList_inj.1 (leafL_spec h)]
  · obtain ⟨h1, h⟩ := bif_tt h
    rw [Nat.eq_of_beq_eq_true h1, Nat.eq_of_beq_eq_true h]
  · rw [Nat.eq_of_beq_eq_true h]
  · rw [Nat.eq_of_beq_eq_true h]
  · exact sameV_spec h
def lEq : List Value → List Value → Bool
  | [], [] => true
  | a :: l, b :: r => bif vEq a b then lEq l r else false
  | _, _ => false
theorem lEq_spec : ∀ {l r : List Value}, lEq l r = true → l = r
  | [], [], _ => rfl
  | a :: l, b :: r, h => by
    unfold lEq at h
    obtain ⟨h1, h⟩ := bif_tt h
    rw [vEq_spec h1, lEq_spec h]
  | [], _ :: _, h => by cases h
  | _ :: _, [], h => by cases h
def oEq : Option AObj → Option AObj → Bool
  | none, none => true
  | some a, some b => bif lEq a.cells b.cells then bif Nat.beq a.elem b.elem then (bif a.exact then b.exact else !b.exact) else false else false
  | _, _ => false
theorem oEq_spec {a b : Option AObj} (h : oEq a b = true) : a = b := by
  unfold oEq at h
  split at h
  · rfl
  · rename_i a b
    obtain ⟨h1, h⟩ := bif_tt h
    obtain ⟨h2, h⟩ := bif_tt h
    obtain ⟨c, e, x⟩ := a
    obtain ⟨c', e', x'⟩ := b
    dsimp only at h1 h2 h
    rw [lEq_spec h1, Nat.eq_of_beq_eq_true h2]
    cases x <;> cases x' <;> first | rfl | cases h
  · cases h
noncomputable def tEq (t : T AObj) : T AObj → Bool :=
  T.rec (motive := fun _ => T AObj → Bool) (fun u => T.rec (motive := fun _ => Bool) true (fun _ _ _ _ _ _ _ _ _ => false) u)
    (fun v a b c d ia ib ic id u => T.rec (motive := fun _ => Bool) false
      (fun v' a' b' c' d' _ _ _ _ => bif oEq v v' then bif ia a' then bif ib b' then bif ic c' then id d' else false else false else false else false) u) t
theorem tEq_spec : ∀ {t u : T AObj}, tEq t u = true → t = u
  | .leaf, .leaf, _ => rfl
  | .leaf, .node .., h => by cases h
  | .node .., .leaf, h => by cases h
  | .node v a b c d, .node v' a' b' c' d', h => by
    have h : (bif oEq v v' then bif tEq a a' then bif tEq b b' then bif tEq c c' then tEq d d' else false else false else false else false) = true := h
    obtain ⟨h1, h⟩ := bif_tt h
    obtain ⟨h2, h⟩ := bif_tt h
    obtain ⟨h3, h⟩ := bif_tt h
    obtain ⟨h4, h⟩ := bif_tt h
    rw [oEq_spec h1, tEq_spec h2, tEq_spec h3, tEq_spec h4, tEq_spec h]
noncomputable def sEq (a b : St) : Bool := bif Nat.beq a.next b.next then bif Nat.beq a.mw b.mw then tEq a.heap b.heap else false else false
theorem sEq_spec {a b : St} (h : sEq a b = true) : a = b := by
  unfold sEq at h
  obtain ⟨h1, h⟩ := bif_tt h
  obtain ⟨h2, h⟩ := bif_tt h
  obtain ⟨n, m, t⟩ := a
  obtain ⟨n', m', t'⟩ := b
  dsimp only at h1 h2 h
  rw [Nat.eq_of_beq_eq_true h1, Nat.eq_of_beq_eq_true h2, tEq_spec h]

/-- A call already run. -/
structure Run1 where
  d : Nat
  f : FuncId
  args : List Value
  s : St
  v : Value
  s' : St
noncomputable def Run1.is (e : Run1) (d : Nat) (f : FuncId) (args : List Value) (s : St) : Bool :=
  bif Nat.beq f e.f then bif Nat.beq s.next e.s.next then bif Nat.beq d e.d then bif lEq args e.args then sEq s e.s else false else false else false else false
noncomputable def find (tb : List Run1) (d : Nat) (f : FuncId) (args : List Value) (s : St) : Option (Value × St) :=
  List.rec (motive := fun _ => Option (Value × St)) none (fun e _ ih => bif e.is d f args s then some (e.v, e.s') else ih) tb
def RunOK (E : Env) (e : Run1) : Prop := callN E e.d e.f e.args e.s = some (e.v, e.s')
def AllOK (E : Env) (tb : List Run1) : Prop := ∀ e ∈ tb, RunOK E e
theorem find_spec {E : Env} : ∀ {tb : List Run1}, AllOK E tb → ∀ {d : Nat} {f : FuncId} {args : List Value} {s : St} {r : Value × St}, find tb d f args s = some r → callN E d f args s = some r
  | [], _, _, _, _, _, _, h => by cases h
  | e :: tb, ht, d, f, args, s, r, h => by
    have h : (bif e.is d f args s then some (e.v, e.s') else find tb d f args s) = some r := h
    rcases bif_or h with ⟨h1, h⟩ | ⟨_, h⟩
    · unfold Run1.is at h1
      obtain ⟨k1, h1⟩ := bif_tt h1
      obtain ⟨_, h1⟩ := bif_tt h1
      obtain ⟨k2, h1⟩ := bif_tt h1
      obtain ⟨k3, h1⟩ := bif_tt h1
      have := ht e (List.mem_cons_self ..)
      unfold RunOK at this
      rw [Nat.eq_of_beq_eq_true k1, Nat.eq_of_beq_eq_true k2, lEq_spec k3, sEq_spec h1, this]
      exact h
    · exact find_spec (fun e he => ht e (List.mem_cons_of_mem _ he)) h

/-- The runner, with a table. -/
noncomputable def callT (E : Env) (tb : List Run1) (d : Nat) : CallF :=
  Nat.rec (motive := fun _ => CallF) (fun _ _ _ => none)
    (fun d ih f args s => Option.rec (motive := fun _ => CallF → Option (Value × St)) (fun ih => bodyY E ih f args s) (fun r _ => some r) (find tb (Nat.succ d) f args s) ih) d

section
variable {E : Env}

theorem body_callN {call : CallF} {d : Nat} (hc : Calls2 call (callN E d)) : Calls2 (bodyY E call) (callN E (d + 1)) := by
  intro f args s r h
  unfold bodyY at h
  unfold callN
  split at h
  · cases h
  · rename_i fn hfn
    rw [hfn]
    simp only
    cases hb : fn.body with
    | none => rw [hb] at h; exact h
    | some c =>
      rw [hb] at h
      simp only at h ⊢
      cases hk : (bif E.known f then noArg args else false) with
      | true => rw [hk, cond_true] at h; rw [cond_true]; exact h
      | false =>
      rw [hk, cond_false] at h
      rw [cond_false]
      cases hor : E.orc f args s with
      | some v => rw [hor] at h; exact h
      | none =>
      rw [hor] at h
      simp only at h ⊢
      obtain ⟨hg, h⟩ := bif_inv h
      simp only [Bool.and_eq_true, Nat.ble_eq, lenN_eq, Nat.add_zero] at hg
      simp only [kNat_eq, lenN_eq, Nat.add_zero, execY_eq E (call2 := call) rfl] at h ⊢
      unfold finishY at h
      split at h
      · rename_i x tm s1 hex
        obtain ⟨l', e1, e2⟩ := exec_W hc c _ _ _ _ _ _ (Rp.start (args := args) (k := fn.ntmps - args.length) (by omega)) hex
        rw [e1]
        simp only
        cases x with
        | exit id => cases h
        | normal =>
          simp only at h ⊢
          split at h
          · rename_i l hl; rw [results_W e2 _ l hl]; exact h
          · cases h
        | ret =>
          simp only at h ⊢
          split at h
          · rename_i l hl; rw [results_W e2 _ l hl]; exact h
          · cases h
      · cases h

theorem callT_callN {tb : List Run1} (ht : AllOK E tb) : ∀ d, Calls2 (callT E tb d) (callN E d)
  | 0 => fun f args s r h => by cases h
  | d + 1 => by
    intro f args s r h
    have h : Option.rec (motive := fun _ => CallF → Option (Value × St)) (fun ih => bodyY E ih f args s) (fun r _ => some r) (find tb (d + 1) f args s) (callT E tb d) = some r := h
    cases hf : find tb (d + 1) f args s with
    | none => rw [hf] at h; exact body_callN (callT_callN ht d) _ _ _ _ h
    | some q => rw [hf] at h; exact (find_spec ht hf).trans h

/-- Is that what comes? -/
noncomputable def isIt (r : Option (Value × St)) (v : Value) (s' : St) : Bool := match r with
  | some (u, t) => bif vEq u v then sEq t s' else false
  | none => false
theorem none_told : AllOK E [] := fun e he => by cases he
/-- One call more of the table. -/
theorem more_told {tb : List Run1} (ht : AllOK E tb) (e : Run1) (h : isIt (callT E tb e.d e.f e.args e.s) e.v e.s' = true) : AllOK E (e :: tb) := fun x hx => by
  rcases List.mem_cons.1 hx with rfl | hx
  · unfold isIt at h
    split at h
    · rename_i u t hr
      obtain ⟨h1, h2⟩ := bif_tt h
      unfold RunOK
      rw [callT_callN ht _ _ _ _ _ hr, vEq_spec h1, sEq_spec h2]
    · cases h
  · exact ht x hx
/-- Of two tables. -/
theorem both_told {a b : List Run1} (ha : AllOK E a) (hb : AllOK E b) : AllOK E (a ++ b) := fun x hx => (List.mem_append.1 hx).elim (ha x) (hb x)
theorem T_true {tb : List Run1} (ht : AllOK E tb) {d : Nat} {f : FuncId} {args : List Value} {s : St} (h : isTrue (callT E tb d f args s) = true) : isTrue (callN E d f args s) = true := by
  obtain ⟨s', e⟩ := isTrue_some h
  rw [callT_callN ht d _ _ _ _ e]
  rfl
/-- One row more, run with a table. -/
theorem nextT {d : Nat} {f : FuncId} {mk : Nat → List Value} {n : Nat} {tb : List Run1} (h : ∀ k, k < n → isTrue (callN E d f (mk k) (start E.P)) = true) (ht : AllOK E tb)
    (hr : isTrue (callT E tb d f (mk n) (start E.P)) = true) : ∀ k, k < n + 1 → isTrue (callN E d f (mk k) (start E.P)) = true := fun k hk => by
  rcases Nat.lt_or_ge k n with h1 | h1
  · exact h k h1
  · rw [show k = n by omega]; exact T_true ht hr
end
end Go.Proofs.Ytlkjdclhgmkndaa.Canon
