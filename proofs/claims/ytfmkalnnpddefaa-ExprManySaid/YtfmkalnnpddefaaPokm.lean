/-
  Plain: which predicates are right of which columns, as pred.Ok counts.
-/
import Derived.Test.YtfmkalnnpddefaaLseven
import Derived.Test.YtfmkalnnpddefaaNormm
import Derived.Test.YtfmkalnnpddefaaLsix
namespace Go.Proofs.Ytfmkalnnpddefaa
set_option linter.unusedVariables false
set_option linter.unusedSimpArgs false
open Go.RowKit

/-- A value that is nothing. -/
def isZ (v : Vc) : Bool := !v.u && (v.k == 0) && (v.n == 0) && (v.b.length == 0)
/-- A comparison that may be. -/
def cmpOkB (cols : List Co) (c o : Int) (v : Vc) : Bool :=
  if c < 0 then false else match cols[c.toNat]? with
    | none => false
    | some co => decide (1 ≤ o) && decide (o ≤ 6) && fitsT ⟨.empty, co.k, false⟩ v
def isColB (cols : List Co) (c : Int) : Bool := decide (0 ≤ c) && decide (c < (cols.length : Int))
/-- One thing of a predicate is right. -/
def shapeB (cols : List Co) (k c o : Int) (v : Vc) (m : Nat) : Bool :=
  if k = 1 then (c == 0) && (o == 0) && isZ v && (m == 0)
  else if k = 2 then cmpOkB cols c o v && (m == 0)
  else if k = 3 then isColB cols c && (o == 0) && isZ v && (m == 0)
  else if k = 4 ∨ k = 5 then (c == 0) && (o == 0) && isZ v && decide (m ≤ 8)
  else if k = 6 then (c == 0) && (o == 0) && isZ v && (m == 1)
  else false

mutual
/-- What is left behind a predicate that is right; none: it is not. -/
def okS (cols : List Co) : Pt → Int → Int → Option Int
  | .mk k c o v l, D, L => if L - (l.length : Int) < 0 then none else if D = 0 then none else if shapeB cols k c o v l.length = true then okSl cols l (D - 1) (L - (l.length : Int)) else none
def okSl (cols : List Co) : List Pt → Int → Int → Option Int
  | [], _, L => some L
  | q :: r, D, L => match okS cols q D L with
    | none => none
    | some L' => okSl cols r D L'
end

theorem okSl_append (cols : List Co) (D : Int) : ∀ (a b : List Pt) (L : Int), okSl cols (a ++ b) D L = match okSl cols a D L with
    | none => none
    | some L' => okSl cols b D L'
  | [], b, L => by rw [List.nil_append, okSl]
  | q :: r, b, L => by
    rw [List.cons_append, okSl, okSl]
    cases okS cols q D L with
    | none => rfl
    | some L' => exact okSl_append cols D r b L'

mutual
/-- All things of it are right. -/
def allB (cols : List Co) : Pt → Bool
  | .mk k c o v l => shapeB cols k c o v l.length && allBl cols l
def allBl (cols : List Co) : List Pt → Bool
  | [] => true
  | q :: r => allB cols q && allBl cols r
end
mutual
/-- How many things there are below. -/
def belT : Pt → Nat
  | .mk _ _ _ _ l => l.length + belL l
def belL : List Pt → Nat
  | [] => 0
  | q :: r => belT q + belL r
end
mutual
theorem okS_eq (cols : List Co) : ∀ (p : Pt) (D L : Int), 0 ≤ D → okS cols p D L = if allB cols p = true ∧ (depT p : Int) ≤ D ∧ (belT p : Int) ≤ L then some (L - (belT p : Int)) else none
  | .mk k c o v l, D, L, hD => by
    unfold okS allB depT belT
    by_cases h1 : L - (l.length : Int) < 0
    · rw [if_pos h1, if_neg (by intro h; omega)]
    rw [if_neg h1]
    by_cases h2 : D = 0
    · rw [if_pos h2, if_neg (by intro h; omega)]
    rw [if_neg h2]
    cases h3 : shapeB cols k c o v l.length
    · rw [if_neg (by decide), if_neg (by simp)]
    rw [if_pos rfl, okSl_eq cols l (D - 1) (L - (l.length : Int)) (by omega) (by omega)]
    simp only [Bool.true_and]
    by_cases h4 : allBl cols l = true ∧ (depL l : Int) ≤ D - 1 ∧ (belL l : Int) ≤ L - (l.length : Int)
    · obtain ⟨a, b, c⟩ := h4
      rw [if_pos ⟨a, b, c⟩, if_pos ⟨a, by omega, by omega⟩]
      congr 1; omega
    · rw [if_neg h4, if_neg (fun h => h4 ⟨h.1, by omega, by omega⟩)]
theorem okSl_eq (cols : List Co) : ∀ (l : List Pt) (D L : Int), 0 ≤ D → 0 ≤ L → okSl cols l D L = if allBl cols l = true ∧ (depL l : Int) ≤ D ∧ (belL l : Int) ≤ L then some (L - (belL l : Int)) else none
  | [], D, L, hD, hL => by
    unfold okSl allBl depL belL
    rw [if_pos ⟨rfl, by omega, by omega⟩]
    simp
  | q :: r, D, L, hD, hL => by
    unfold okSl allBl depL belL
    rw [okS_eq cols q D L hD]
    by_cases h1 : allB cols q = true ∧ (depT q : Int) ≤ D ∧ (belT q : Int) ≤ L
    · obtain ⟨a, b, c⟩ := h1
      rw [if_pos ⟨a, b, c⟩]
      simp only
      rw [okSl_eq cols r D (L - (belT q : Int)) hD (by omega), a]
      simp only [Bool.true_and]
      by_cases h2 : allBl cols r = true ∧ (depL r : Int) ≤ D ∧ (belL r : Int) ≤ L - (belT q : Int)
      · obtain ⟨x, y, z⟩ := h2
        rw [if_pos ⟨x, y, z⟩, if_pos ⟨x, by omega, by omega⟩]
        congr 1; omega
      · rw [if_neg h2, if_neg (fun h => h2 ⟨h.1, by omega, by omega⟩)]
    · rw [if_neg h1]
      simp only
      rw [if_neg]
      intro h
      refine h1 ⟨?_, by omega, by omega⟩
      have := h.1
      rw [Bool.and_eq_true] at this
      exact this.1
end

/-- A predicate on rows of such columns. -/
def predOkB (cols : List Co) (p : Pt) : Bool := allB cols p && decide (depT p ≤ 5) && decide (belT p ≤ 63)
theorem okS_start (cols : List Co) (p : Pt) : (okS cols p 5 63).isSome = predOkB cols p := by
  rw [okS_eq cols p 5 63 (by omega)]
  unfold predOkB
  by_cases h : allB cols p = true ∧ (depT p : Int) ≤ 5 ∧ (belT p : Int) ≤ 63
  · obtain ⟨a, b, c⟩ := h
    rw [if_pos ⟨a, b, c⟩, a, decide_eq_true (show depT p ≤ 5 by omega), decide_eq_true (show belT p ≤ 63 by omega)]; rfl
  · rw [if_neg h]
    symm
    rw [Option.isSome_none, Bool.eq_false_iff]
    intro hh
    rw [Bool.and_eq_true, Bool.and_eq_true, decide_eq_true_eq, decide_eq_true_eq] at hh
    exact h ⟨hh.1.1, by omega, by omega⟩

end Go.Proofs.Ytfmkalnnpddefaa
