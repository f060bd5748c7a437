/-
  Predicates as trees; how they read; what they are of a row.
-/
import Derived.Test.YtlkjdclhgmkndaaRows6
namespace Go.Proofs.Ytlkjdclhgmkndaa
set_option linter.unusedVariables false
set_option linter.unusedSimpArgs false
open Go.RowKit

/-- A predicate: its kind, column, op, value, list. -/
inductive Pt where
  | mk (k c o : Int) (v : Vc) (l : List Pt)

/-- The cells of a predicate. -/
def cellsP (k c o : Int) (v : Vc) (s ls : Value) : List Value := [.int .i64 k, .int .i64 c, .int .i64 o, .bool v.u, .int .i64 v.k, .int .i64 v.n, s, ls]
def aggP (k c o : Int) (v : Vc) (s ls : Value) : Value := .agg #[.int .i64 k, .int .i64 c, .int .i64 o, .bool v.u, .int .i64 v.k, .int .i64 v.n, s, ls]

mutual
/-- These cells read as that predicate. -/
def RdT1 (w : World) : Pt → List Value → Prop
  | .mk k c o v l, cs => ∃ s ls css, cs = cellsP k c o v s ls ∧ OkV w (v, s) ∧ RdS w 8 ls css ∧ RdTs w l css
def RdTs (w : World) : List Pt → List (List Value) → Prop
  | [], [] => True
  | q :: r, cs :: t => RdT1 w q cs ∧ RdTs w r t
  | [], _ :: _ => False
  | _ :: _, [] => False
end

mutual
theorem RdT1.kept {w w' : World} (hb : Below w.heap.size w w') : ∀ (p : Pt) {cs : List Value}, RdT1 w p cs → RdT1 w' p cs
  | .mk k c o v l, cs, h => by
    unfold RdT1 at h ⊢
    obtain ⟨s, ls, css, h1, h2, h3, h4⟩ := h
    exact ⟨s, ls, css, h1, h2.kept hb, h3.kept hb, RdTs.kept hb l h4⟩
theorem RdTs.kept {w w' : World} (hb : Below w.heap.size w w') : ∀ (l : List Pt) {css : List (List Value)}, RdTs w l css → RdTs w' l css
  | [], [], _ => by unfold RdTs; trivial
  | q :: r, cs :: t, h => by
    unfold RdTs at h ⊢
    exact ⟨RdT1.kept hb q h.1, RdTs.kept hb r h.2⟩
  | [], _ :: _, h => by unfold RdTs at h; exact h.elim
  | _ :: _, [], h => by unfold RdTs at h; exact h.elim
end

theorem rdTs_len {w : World} : ∀ {l : List Pt} {css : List (List Value)}, RdTs w l css → css.length = l.length
  | [], [], _ => rfl
  | q :: r, cs :: t, h => by unfold RdTs at h; rw [List.length_cons, List.length_cons, rdTs_len h.2]
  | [], _ :: _, h => by unfold RdTs at h; exact h.elim
  | _ :: _, [], h => by unfold RdTs at h; exact h.elim
theorem rdTs_at {w : World} : ∀ {l : List Pt} {css : List (List Value)}, RdTs w l css → ∀ {k : Nat} {q : Pt}, l[k]? = some q → ∃ cs, css[k]? = some cs ∧ RdT1 w q cs
  | [], [], _, k, q, hk => by simp at hk
  | p :: r, cs :: t, h, 0, q, hk => by
    unfold RdTs at h
    simp only [List.getElem?_cons_zero, Option.some.injEq] at hk
    subst hk
    exact ⟨cs, rfl, h.1⟩
  | p :: r, cs :: t, h, k + 1, q, hk => by
    unfold RdTs at h
    rw [List.getElem?_cons_succ] at hk ⊢
    exact rdTs_at h.2 hk
  | [], _ :: _, h, _, _, _ => by unfold RdTs at h; exact h.elim
  | _ :: _, [], h, _, _, _ => by unfold RdTs at h; exact h.elim

mutual
def depT : Pt → Nat
  | .mk _ _ _ _ l => depL l + 1
def depL : List Pt → Nat
  | [] => 0
  | q :: r => max (depT q) (depL r)
end
mutual
/-- How many there are below, and bytes. -/
def cntT : Pt → Nat
  | .mk _ _ _ v l => l.length + v.b.length + cntL l
def cntL : List Pt → Nat
  | [] => 0
  | q :: r => cntT q + cntL r
end

/-- What an op says of an order. -/
def holdsB (o d : Int) : Bool := if o = 1 then d == 0 else if o = 2 then d != 0 else if o = 3 then decide (d < 0) else if o = 4 then decide (d ≤ 0) else if o = 5 then decide (0 < d) else if o = 6 then decide (0 ≤ d) else false
def verdB (b : Bool) : Int := if b = true then 1 else 2
def otherT (v : Int) : Int := if v = 1 then 2 else if v = 2 then 1 else v
/-- The value of a column, where there is one. -/
def colT (r : List Vc) (c : Int) : Option Vc := if c < 0 then none else r[c.toNat]?
def cmpE (r : List Vc) (c o : Int) (v : Vc) : Int := match colT r c with
  | none => 3
  | some x => if x.u = true then 3 else verdB (holdsB o (cmpT x v))
def nullE (r : List Vc) (c : Int) : Int := match colT r c with
  | none => 3
  | some x => verdB x.u
/-- Of a list: one that is s decides; else one that is none; else w. -/
def listE (s w : Int) (vs : List Int) : Int := if s ∈ vs then s else if 3 ∈ vs then 3 else w
mutual
/-- What a predicate is of a row. -/
def evalT (r : List Vc) : Pt → Int
  | .mk k c o v l =>
    if k = 1 then 1 else if k = 2 then cmpE r c o v else if k = 3 then nullE r c else if k = 4 then listE 2 1 (evalL r l) else if k = 5 then listE 1 2 (evalL r l)
    else if k = 6 then (match evalL r l with | [x] => otherT x | _ => 3) else 3
def evalL (r : List Vc) : List Pt → List Int
  | [] => []
  | q :: t => evalT r q :: evalL r t
end
theorem evalL_eq (r : List Vc) (l : List Pt) : evalL r l = l.map (evalT r) := by
  induction l with
  | nil => rfl
  | cons q t ih => rw [evalL, ih]; rfl

theorem depL_mem {l : List Pt} {k : Nat} {q : Pt} (h : l[k]? = some q) : depT q ≤ depL l := by
  induction l generalizing k with
  | nil => simp at h
  | cons p r ih =>
    cases k with
    | zero =>
      simp only [List.getElem?_cons_zero, Option.some.injEq] at h
      subst h
      unfold depL; omega
    | succ k =>
      have := ih (by simpa using h)
      unfold depL; omega
theorem cntL_take {l : List Pt} {k : Nat} {q : Pt} (h : l[k]? = some q) : cntL (l.take (k + 1)) = cntL (l.take k) + cntT q := by
  induction l generalizing k with
  | nil => simp at h
  | cons p r ih =>
    cases k with
    | zero =>
      simp only [List.getElem?_cons_zero, Option.some.injEq] at h
      subst h
      simp [cntL]
    | succ k =>
      have := ih (k := k) (by simpa using h)
      rw [List.take_succ_cons, List.take_succ_cons, cntL, cntL, this]; omega
theorem cntL_le (l : List Pt) (k : Nat) : cntL (l.take k) ≤ cntL l := by
  induction l generalizing k with
  | nil => simp
  | cons p r ih =>
    cases k with
    | zero => simp [cntL]
    | succ k => rw [List.take_succ_cons, cntL, cntL]; have := ih k; omega

end Go.Proofs.Ytlkjdclhgmkndaa
