/-
  Plain facts on what stamps say; cells of a row, all at once.
-/
import Derived.Test.YtnjeoolbnanmiaaStamf
namespace Go.Proofs.Ytnjeoolbnanmiaa
set_option linter.unusedVariables false
open Go.RowKit

theorem cells2 {w : World} {X : Nat} {a b : Value} {T : TypeId} (h : w.heap[X]? = some (.cells #[a, b] T (0, 0))) :
    w.cell? ⟨X, 0, none⟩ = some a ∧ w.cell? ⟨X, 1, none⟩ = some b ∧ w.frozen? ⟨X, 0, none⟩ = false ∧ w.frozen? ⟨X, 1, none⟩ = false :=
  ⟨by rw [cell_of_row w X 0 _ _ _ h]; rfl, by rw [cell_of_row w X 1 _ _ _ h]; rfl, frozen_of_row w X 0 _ _ h, frozen_of_row w X 1 _ _ h⟩
theorem cells4 {w : World} {X : Nat} {a b c d : Value} {T : TypeId} (h : w.heap[X]? = some (.cells #[a, b, c, d] T (0, 0))) :
    w.cell? ⟨X, 0, none⟩ = some a ∧ w.cell? ⟨X, 1, none⟩ = some b ∧ w.cell? ⟨X, 2, none⟩ = some c ∧ w.cell? ⟨X, 3, none⟩ = some d :=
  ⟨by rw [cell_of_row w X 0 _ _ _ h]; rfl, by rw [cell_of_row w X 1 _ _ _ h]; rfl, by rw [cell_of_row w X 2 _ _ _ h]; rfl, by rw [cell_of_row w X 3 _ _ _ h]; rfl⟩
theorem froz4 {w : World} {X : Nat} {a b c d : Value} {T : TypeId} (h : w.heap[X]? = some (.cells #[a, b, c, d] T (0, 0))) :
    w.frozen? ⟨X, 0, none⟩ = false ∧ w.frozen? ⟨X, 1, none⟩ = false ∧ w.frozen? ⟨X, 2, none⟩ = false ∧ w.frozen? ⟨X, 3, none⟩ = false :=
  ⟨frozen_of_row w X 0 _ _ h, frozen_of_row w X 1 _ _ h, frozen_of_row w X 2 _ _ h, frozen_of_row w X 3 _ _ h⟩

theorem said_le (l : List Ti) (x y at' : Int) (h0 : 0 ≤ x) (h6 : x ≤ 6) : 0 ≤ (saidT l x y at').2 ∧ (saidT l x y at').2 ≤ 6 := by
  unfold saidT
  repeat' split
  all_goals (simp only; omega)
theorem end_le (l : List Ti) (x y at' : Int) (h0 : 0 ≤ x) (h6 : x ≤ 6) : 0 ≤ (endT l x y at').2 ∧ (endT l x y at').2 ≤ 6 := by
  unfold endT
  split
  · simp
  · exact said_le l x y at' h0 h6

theorem rdI_shape {B : Nat} {w : World} {v : Value} {xs : List Int} (h : Canon.RdI B w v xs) : ∃ ao cap, v = .slice ao xs.length cap := by
  obtain ⟨ao, cap, h1, _⟩ := h
  exact ⟨ao, cap, h1⟩

theorem isOf_zero (x : Int) : isOfB x 0 = false := by
  unfold isOfB
  by_cases h : x = 0
  · rw [h]; rfl
  · have : (x == 0) = false := by rw [beq_eq_false_iff_ne]; exact h
    rw [this, Bool.and_false]
theorem isOf_none (me : Int) : isOfB 0 me = false := by unfold isOfB; rfl
theorem isOf_far (x me : Int) (h : x ≠ me) : isOfB x me = false := by
  unfold isOfB
  have : (x == me) = false := by rw [beq_eq_false_iff_ne]; exact h
  rw [this, Bool.and_false]

theorem end_none (l : List Ti) (at' : Int) : endT l 0 0 at' = (false, 0) := by unfold endT neverB; rfl

/-- When a stamp is. -/
def whenT (l : List Ti) (x y : Int) : Int := if x = 0 then y else if (stateT l x).s = 2 ∨ (stateT l x).s = 3 then (stateT l x).e else 99

theorem said_iff (l : List Ti) (x y t : Int) : (saidT l x y t).1 = true ↔ (x = 0 ∧ y ≤ t) ∨ (x ≠ 0 ∧ ((stateT l x).s = 2 ∨ (stateT l x).s = 3) ∧ (stateT l x).e ≤ t) := by
  unfold saidT
  by_cases h : x = 0
  · rw [if_pos h]; simp [h]
  · rw [if_neg h]
    by_cases h2 : (stateT l x).s = 2 ∧ (stateT l x).e ≤ t
    · rw [if_pos h2]; simp [h, h2.1, h2.2]
    · rw [if_neg h2]
      by_cases h3 : (stateT l x).s = 3 ∧ (stateT l x).e ≤ t
      · rw [if_pos h3]; simp [h, h3.1, h3.2]
      · rw [if_neg h3]
        simp only [Bool.false_eq_true, false_iff]
        rintro (⟨h4, _⟩ | ⟨_, h4 | h4, h5⟩)
        · exact h h4
        · exact h2 ⟨h4, h5⟩
        · exact h3 ⟨h4, h5⟩

theorem said_later (l : List Ti) (x y a b : Int) (hab : a ≤ b) (h : (saidT l x y a).1 = true) : (saidT l x y b).1 = true := by
  rw [said_iff] at h ⊢
  rcases h with ⟨h1, h2⟩ | ⟨h1, h2, h3⟩
  · exact .inl ⟨h1, by omega⟩
  · exact .inr ⟨h1, h2, by omega⟩
theorem end_later (l : List Ti) (x y a b : Int) (hab : a ≤ b) (h : (endT l x y a).1 = true) : (endT l x y b).1 = true := by
  unfold endT at h ⊢
  split at h
  · cases h
  · rename_i hn; rw [if_neg hn]; exact said_later l x y a b hab h

theorem said_when (l : List Ti) (x y a b : Int) (ha : (saidT l x y a).1 = false) (hb : (saidT l x y b).1 = true) : a < whenT l x y ∧ whenT l x y ≤ b := by
  rw [said_iff] at hb
  have ha' : ¬((x = 0 ∧ y ≤ a) ∨ (x ≠ 0 ∧ ((stateT l x).s = 2 ∨ (stateT l x).s = 3) ∧ (stateT l x).e ≤ a)) := by rw [← said_iff, ha]; simp
  unfold whenT
  rcases hb with ⟨h1, h2⟩ | ⟨h1, h2, h3⟩
  · rw [if_pos h1]
    refine ⟨?_, h2⟩
    have := fun h => ha' (.inl ⟨h1, h⟩)
    omega
  · rw [if_neg h1, if_pos h2]
    refine ⟨?_, h3⟩
    have := fun h => ha' (.inr ⟨h1, h2, h⟩)
    omega

theorem there_fst (x y : Bool × Int) : (thereT x y).1 = (x.1 && !y.1) := by
  unfold thereT
  cases x.1 <;> rfl

theorem sees_zero (l : List Ti) (bx b ex e t : Int) : seesT l bx b ex e 0 t = thereT (saidT l bx b t) (endT l ex e t) := by
  unfold seesT
  rw [isOf_zero, isOf_zero]
  rfl

/-- Seen at a time and not at a later one: it has ended between. -/
theorem later_gone (l : List Ti) (bx b ex e s t : Int) (hst : s ≤ t) (h1 : (seesT l bx b ex e 0 s).1 = true) (h2 : (seesT l bx b ex e 0 t).1 = false) : neverB ex e = false ∧ s < whenT l ex e ∧ whenT l ex e ≤ t := by
  rw [sees_zero, there_fst, Bool.and_eq_true] at h1
  rw [sees_zero, there_fst, said_later l bx b s t hst h1.1, Bool.true_and] at h2
  have h3 : (endT l ex e t).1 = true := by simpa using h2
  have h4 : (endT l ex e s).1 = false := by simpa using h1.2
  unfold endT at h3 h4
  split at h3
  · cases h3
  · rename_i hn
    rw [if_neg hn] at h4
    exact ⟨by simpa using hn, said_when l ex e s t h4 h3⟩
/-- Seen at the later one alone: it has begun between. -/
theorem later_come (l : List Ti) (bx b ex e s t : Int) (hst : s ≤ t) (h1 : (seesT l bx b ex e 0 s).1 = false) (h2 : (seesT l bx b ex e 0 t).1 = true) : s < whenT l bx b ∧ whenT l bx b ≤ t := by
  rw [sees_zero, there_fst, Bool.and_eq_true] at h2
  have h3 : (endT l ex e t).1 = false := by simpa using h2.2
  have h4 : (endT l ex e s).1 = false := by
    cases h : (endT l ex e s).1 with
    | false => rfl
    | true => rw [end_later l ex e s t hst h] at h3; cases h3
  rw [sees_zero, there_fst, h4] at h1
  exact said_when l bx b s t (by simpa using h1) h2.1

theorem state_none (l : List Ti) (id : Int) (h : ∀ t ∈ l, t.i ≠ id) : stateT l id = Ti.zero := by
  unfold stateT
  rw [List.find?_eq_none.2 (fun x hx => by simpa using h x hx)]
  rfl

end Go.Proofs.Ytnjeoolbnanmiaa
