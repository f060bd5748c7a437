/-
  Plain: the one form of a predicate.
-/
import Derived.Test.YtnfjdoeemnhkbaaLseven
namespace Go.Proofs.Ytnfjdoeemnhkbaa
set_option linter.unusedVariables false
set_option linter.unusedSimpArgs false

def opN (o : Int) : Int := if o = 1 then 2 else if o = 2 then 1 else if o = 3 then 6 else if o = 6 then 3 else if o = 4 then 5 else if o = 5 then 4 else o
def prodL (a b : List (List Pt)) : List (List Pt) := a.flatMap fun x => b.map fun y => x ++ y
def fitsB (x : List Pt) (b : List (List Pt)) : Bool := b.all fun y => decide (x.length + y.length ≤ 32)
def timesN (a b : List (List Pt)) : Option (List (List Pt)) := if 32 < a.length * b.length then none else if a.all (fun x => fitsB x b) = true then some (prodL a b) else none

mutual
/-- The form of a predicate, or of its not. -/
def nrm : Pt → Bool → Option (List (List Pt))
  | .mk k c o v l, nt =>
    if k = 1 then some (if nt then [] else [[]])
    else if k = 2 then some [[.mk 2 c (if nt then opN o else o) v l]]
    else if k = 3 then some [[if nt then .mk 6 0 0 zeroV [.mk 3 c o v l] else .mk 3 c o v l]]
    else if k = 6 then nrmOne l nt
    else if k = 4 ∨ k = 5 then (if (decide (k = 4) != nt) = true then prodN l nt [[]] else sumN l nt [])
    else none
def nrmOne : List Pt → Bool → Option (List (List Pt))
  | [], _ => none
  | q :: r, nt => match r with
    | [] => nrm q (!nt)
    | _ :: _ => none
def sumN : List Pt → Bool → List (List Pt) → Option (List (List Pt))
  | [], _, out => some out
  | q :: r, nt, out => match nrm q nt with
    | none => none
    | some m => if 32 < out.length + m.length then none else sumN r nt (out ++ m)
def prodN : List Pt → Bool → List (List Pt) → Option (List (List Pt))
  | [], _, out => some out
  | q :: r, nt, out => match nrm q nt with
    | none => none
    | some m => match timesN out m with
      | none => none
      | some o2 => prodN r nt o2
end
mutual
def nodesT : Pt → Nat
  | .mk _ _ _ _ l => nodesL l + 1
def nodesL : List Pt → Nat
  | [] => 0
  | q :: r => nodesT q + nodesL r
end
theorem nodesL_take {l : List Pt} {k : Nat} {q : Pt} (h : l[k]? = some q) : nodesL (l.take (k + 1)) = nodesL (l.take k) + nodesT q := by
  induction l generalizing k with
  | nil => simp at h
  | cons p r ih =>
    cases k with
    | zero =>
      simp only [List.getElem?_cons_zero, Option.some.injEq] at h
      subst h
      simp [nodesL]
    | succ k =>
      have := ih (k := k) (by simpa using h)
      rw [List.take_succ_cons, List.take_succ_cons, nodesL, nodesL, this]; omega
theorem nodesL_le (l : List Pt) (k : Nat) : nodesL (l.take k) ≤ nodesL l := by
  induction l generalizing k with
  | nil => simp
  | cons p r ih =>
    cases k with
    | zero => simp [nodesL]
    | succ k => rw [List.take_succ_cons, nodesL, nodesL]; have := ih k; omega
theorem nodesL_len (l : List Pt) : l.length ≤ nodesL l := by
  induction l with
  | nil => simp
  | cons p r ih => rw [List.length_cons, nodesL]; have : 1 ≤ nodesT p := (by cases p; rw [nodesT]; omega); omega

theorem sumN_snoc (l : List Pt) (q : Pt) (nt : Bool) : ∀ out : List (List Pt), sumN (l ++ [q]) nt out = match sumN l nt out with
    | none => none
    | some m => match nrm q nt with
      | none => none
      | some y => if 32 < m.length + y.length then none else some (m ++ y) := by
  induction l with
  | nil =>
    intro out
    show sumN [q] nt out = _
    unfold sumN
    cases nrm q nt with
    | none => simp [sumN]
    | some m => simp only [sumN]
  | cons p r ih =>
    intro out
    show sumN (p :: (r ++ [q])) nt out = _
    rw [sumN, sumN]
    cases nrm p nt with
    | none => rfl
    | some m =>
      simp only
      by_cases h : 32 < out.length + m.length
      · rw [if_pos h, if_pos h]
      · rw [if_neg h, if_neg h]; exact ih _
theorem prodN_snoc (l : List Pt) (q : Pt) (nt : Bool) : ∀ out : List (List Pt), prodN (l ++ [q]) nt out = match prodN l nt out with
    | none => none
    | some m => match nrm q nt with
      | none => none
      | some y => timesN m y := by
  induction l with
  | nil =>
    intro out
    show prodN [q] nt out = _
    unfold prodN
    cases nrm q nt with
    | none => simp [prodN]
    | some m =>
      simp only [prodN]
      cases timesN out m with
      | none => rfl
      | some o2 => simp
  | cons p r ih =>
    intro out
    show prodN (p :: (r ++ [q])) nt out = _
    rw [prodN, prodN]
    cases nrm p nt with
    | none => rfl
    | some m =>
      simp only
      cases timesN out m with
      | none => rfl
      | some o2 => exact ih _
/-- One that is none stays none. -/
theorem sumN_none {l r : List Pt} {nt : Bool} {out : List (List Pt)} (h : sumN l nt out = none) : sumN (l ++ r) nt out = none := by
  induction l generalizing out with
  | nil => cases h
  | cons p t ih =>
    show sumN (p :: (t ++ r)) nt out = none
    rw [sumN] at h ⊢
    cases hp : nrm p nt with
    | none => rfl
    | some m =>
      rw [hp] at h
      simp only at h ⊢
      by_cases hc : 32 < out.length + m.length
      · rw [if_pos hc]
      · rw [if_neg hc] at h ⊢; exact ih h
theorem prodN_none {l r : List Pt} {nt : Bool} {out : List (List Pt)} (h : prodN l nt out = none) : prodN (l ++ r) nt out = none := by
  induction l generalizing out with
  | nil => cases h
  | cons p t ih =>
    show prodN (p :: (t ++ r)) nt out = none
    rw [prodN] at h ⊢
    cases hp : nrm p nt with
    | none => rfl
    | some m =>
      rw [hp] at h
      simp only at h ⊢
      cases ht : timesN out m with
      | none => rfl
      | some o2 => rw [ht] at h; exact ih h

/-- How many at most. -/
def SmallN (a : List (List Pt)) : Prop := a.length ≤ 32 ∧ ∀ x ∈ a, x.length ≤ 32
theorem prodL_len (a b : List (List Pt)) : (prodL a b).length = a.length * b.length := by
  unfold prodL
  induction a with
  | nil => simp
  | cons x r ih => rw [List.flatMap_cons, List.length_append, List.length_map, ih, List.length_cons, Nat.add_mul]; omega
theorem timesN_small {a b o : List (List Pt)} (h : timesN a b = some o) : SmallN o := by
  unfold timesN at h
  split at h
  · cases h
  · rename_i h1
    split at h
    · rename_i h2
      cases h
      refine ⟨by rw [prodL_len]; omega, fun x hx => ?_⟩
      unfold prodL at hx
      obtain ⟨y, hy, hx⟩ := List.mem_flatMap.1 hx
      obtain ⟨z, hz, rfl⟩ := List.mem_map.1 hx
      rw [List.all_eq_true] at h2
      have := h2 y hy
      unfold fitsB at this
      rw [List.all_eq_true] at this
      have := of_decide_eq_true (this z hz)
      rw [List.length_append]
      exact this
    · cases h
mutual
theorem nrm_small : ∀ (p : Pt) (nt : Bool) {a : List (List Pt)}, nrm p nt = some a → SmallN a
  | .mk k c o v l, nt, a, h => by
    unfold nrm at h
    split at h
    · cases h; cases nt <;> simp [SmallN]
    · split at h
      · cases h; simp [SmallN]
      · split at h
        · cases h; simp [SmallN]
        · split at h
          · exact nrmOne_small l nt h
          · split at h
            · split at h
              · exact prodN_small l nt [[]] (by simp [SmallN]) h
              · exact sumN_small l nt [] (by simp [SmallN]) h
            · cases h
theorem nrmOne_small : ∀ (l : List Pt) (nt : Bool) {a : List (List Pt)}, nrmOne l nt = some a → SmallN a
  | [], nt, a, h => by unfold nrmOne at h; cases h
  | q :: r, nt, a, h => by
    unfold nrmOne at h
    split at h
    · exact nrm_small q _ h
    · cases h
theorem sumN_small : ∀ (l : List Pt) (nt : Bool) (out : List (List Pt)) {a : List (List Pt)}, SmallN out → sumN l nt out = some a → SmallN a
  | [], nt, out, a, ho, h => by unfold sumN at h; cases h; exact ho
  | q :: r, nt, out, a, ho, h => by
    unfold sumN at h
    split at h
    · cases h
    · rename_i m hm
      split at h
      · cases h
      · rename_i hl
        have hs := nrm_small q nt hm
        refine sumN_small r nt (out ++ m) ⟨by rw [List.length_append]; omega, fun x hx => ?_⟩ h
        rcases List.mem_append.1 hx with h1 | h1
        · exact ho.2 x h1
        · exact hs.2 x h1
theorem prodN_small : ∀ (l : List Pt) (nt : Bool) (out : List (List Pt)) {a : List (List Pt)}, SmallN out → prodN l nt out = some a → SmallN a
  | [], nt, out, a, ho, h => by unfold prodN at h; cases h; exact ho
  | q :: r, nt, out, a, ho, h => by
    unfold prodN at h
    split at h
    · cases h
    · split at h
      · cases h
      · rename_i o2 ho2
        exact prodN_small r nt o2 (timesN_small ho2) h
end
theorem nrmOne_one (q : Pt) (nt : Bool) : nrmOne [q] nt = nrm q (!nt) := by unfold nrmOne; rfl
theorem nrmOne_not {l : List Pt} (nt : Bool) (h : l.length ≠ 1) : nrmOne l nt = none := by
  match l, h with
  | [], _ => unfold nrmOne; rfl
  | [q], h => exact absurd rfl h
  | q :: p :: r, _ => unfold nrmOne; rfl

/-- What it comes to as a predicate. -/
def normT (p : Pt) : Option Pt := (nrm p false).map fun a => .mk 5 0 0 zeroV (a.map fun x => .mk 4 0 0 zeroV x)
def isKeyT : Pt → Bool | .mk k c o _ _ => k == 2 && c == 0 && o == 1
def valN : Pt → Int | .mk _ _ _ v _ => v.n
def keyT (p : Pt) : Option Int := match nrm p false with
  | some [x] => (x.find? isKeyT).map valN
  | _ => none

end Go.Proofs.Ytnfjdoeemnhkbaa
