/-
  Plain: the form as the reference makes it: nots pushed inwards, then the ways.
-/
import Derived.Test.YtfmkalnnpddefaaNform
namespace Go.Proofs.Ytfmkalnnpddefaa
set_option linter.unusedVariables false
set_option linter.unusedSimpArgs false

mutual
/-- A predicate, or its not, with the nots at the leaves. -/
def inwT : Pt → Bool → Pt
  | .mk k c o v l, nt =>
    if k = 1 then .mk (if nt then 5 else 4) 0 0 zeroV []
    else if k = 6 then inwO l nt
    else if k = 2 then .mk 2 c (if nt then opN o else o) v l
    else if k = 3 then (if nt then .mk 6 0 0 zeroV [.mk 3 c o v l] else .mk 3 c o v l)
    else .mk (if nt then 9 - k else k) 0 0 zeroV (inwL l nt)
def inwO : List Pt → Bool → Pt
  | [], _ => .mk 0 0 0 zeroV []
  | q :: _, nt => inwT q (!nt)
def inwL : List Pt → Bool → List Pt
  | [], _ => []
  | q :: r, nt => inwT q nt :: inwL r nt
end
theorem inwL_map (nt : Bool) : ∀ l : List Pt, inwL l nt = l.map fun q => inwT q nt
  | [] => by unfold inwL; rfl
  | q :: r => by unfold inwL; rw [inwL_map nt r]; rfl
mutual
/-- The ways in which it may be true. -/
def waysT : Pt → Option (List (List Pt))
  | .mk k c o v l => if k = 5 then waysS l [] else if k = 4 then waysP l [[]] else some [[.mk k c o v l]]
def waysS : List Pt → List (List Pt) → Option (List (List Pt))
  | [], out => some out
  | q :: r, out => match waysT q with
    | none => none
    | some m => if 32 < out.length + m.length then none else waysS r (out ++ m)
def waysP : List Pt → List (List Pt) → Option (List (List Pt))
  | [], out => some out
  | q :: r, out => match waysT q with
    | none => none
    | some m => match timesN out m with
      | none => none
      | some o2 => waysP r o2
end
mutual
/-- A predicate of such kinds as there are. -/
def kindsT : Pt → Prop
  | .mk k c o v l => (1 ≤ k ∧ k ≤ 6) ∧ (k = 6 → l.length = 1) ∧ kindsL l
def kindsL : List Pt → Prop
  | [] => True
  | q :: r => kindsT q ∧ kindsL r
end
mutual
theorem ways_inw : ∀ (p : Pt) (nt : Bool), kindsT p → waysT (inwT p nt) = nrm p nt
  | .mk k c o v l, nt, h => by
    unfold kindsT at h
    obtain ⟨⟨hk1, hk2⟩, h6, hl⟩ := h
    rcases (by omega : k = 1 ∨ k = 2 ∨ k = 3 ∨ k = 4 ∨ k = 5 ∨ k = 6) with rfl | rfl | rfl | rfl | rfl | rfl
    · unfold inwT nrm
      cases nt
      · simp [waysT, waysP]
      · simp [waysT, waysS]
    · unfold inwT nrm
      simp [waysT]
    · unfold inwT nrm
      cases nt <;> simp [waysT]
    · unfold inwT nrm
      cases nt
      · simp [waysT, ways_prod l false [[]] hl]
      · simp [waysT, ways_sum l true [] hl]
    · unfold inwT nrm
      cases nt
      · simp [waysT, ways_sum l false [] hl]
      · simp [waysT, ways_prod l true [[]] hl]
    · match l, h6 rfl, hl with
      | [q], _, hl =>
        unfold inwT nrm
        simp only [show ¬ (6 : Int) = 1 by decide, show ¬ (6 : Int) = 2 by decide, show ¬ (6 : Int) = 3 by decide, if_false, if_true]
        unfold kindsL at hl
        rw [inwO, nrmOne_one]
        exact ways_inw q (!nt) hl.1
theorem ways_sum : ∀ (l : List Pt) (nt : Bool) (out : List (List Pt)), kindsL l → waysS (inwL l nt) out = sumN l nt out
  | [], nt, out, _ => by rw [inwL, waysS, sumN]
  | q :: r, nt, out, h => by
    unfold kindsL at h
    rw [inwL, waysS, sumN, ways_inw q nt h.1]
    cases nrm q nt with
    | none => rfl
    | some m =>
      simp only
      split
      · rfl
      · exact ways_sum r nt _ h.2
theorem ways_prod : ∀ (l : List Pt) (nt : Bool) (out : List (List Pt)), kindsL l → waysP (inwL l nt) out = prodN l nt out
  | [], nt, out, _ => by rw [inwL, waysP, prodN]
  | q :: r, nt, out, h => by
    unfold kindsL at h
    rw [inwL, waysP, prodN, ways_inw q nt h.1]
    cases nrm q nt with
    | none => rfl
    | some m =>
      simp only
      cases timesN out m with
      | none => rfl
      | some o2 => exact ways_prod r nt o2 h.2
end

theorem kindsL_of : ∀ {l : List Pt}, (∀ q ∈ l, kindsT q) → kindsL l
  | [], _ => by unfold kindsL; trivial
  | p :: t, h => by unfold kindsL; exact ⟨h p List.mem_cons_self, kindsL_of fun q hq => h q (List.mem_cons_of_mem _ hq)⟩
theorem leafOf_kinds (cols : List Co) (n k : Int) : kindsT (leafOf cols n k) := by
  unfold leafOf
  split
  · unfold kindsT; exact ⟨by omega, fun h => by omega, by unfold kindsL; trivial⟩
  · split
    · unfold kindsT; exact ⟨by omega, fun h => by omega, by unfold kindsL; trivial⟩
    · unfold kindsT; exact ⟨by omega, fun h => by omega, by unfold kindsL; trivial⟩
theorem predOf_kinds (cols : List Co) (l : List Int) : ∀ (d at_ : Nat), kindsT (predOf cols l d at_)
  | 0, at_ => by unfold predOf; exact leafOf_kinds _ _ _
  | d + 1, at_ => by
    unfold predOf
    split
    · rename_i hk
      unfold kindsT
      refine ⟨by omega, fun h => by omega, kindsL_of fun q hq => ?_⟩
      obtain ⟨i, _, rfl⟩ := List.mem_map.1 hq
      exact predOf_kinds cols l d _
    · split
      · unfold kindsT
        exact ⟨by omega, fun _ => rfl, kindsL_of fun q hq => by rw [List.mem_singleton.1 hq]; exact predOf_kinds cols l d _⟩
      · exact leafOf_kinds _ _ _

end Go.Proofs.Ytfmkalnnpddefaa
