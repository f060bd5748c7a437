/-
  Contract of the reference's Eval, for predicates that may be.
-/
import Derived.Test.YtnfjdoeemnhkbaaRefk
import Derived.Test.YtnfjdoeemnhkbaaLseven
namespace Go.Proofs.Ytnfjdoeemnhkbaa
set_option linter.unusedVariables false
set_option linter.unusedSimpArgs false
open Go.RowKit

mutual
/-- A predicate of which the reference may be asked, of that row. -/
def okE (r : List Vc) : Pt → Prop
  | .mk k c o v l => (k = 1) ∨ (k = 2 ∧ 0 ≤ c ∧ c < r.length ∧ 1 ≤ o ∧ o ≤ 6 ∧ ∀ x, r[c.toNat]? = some x → x.u = false → refC x v = cmpT x v) ∨ (k = 3 ∧ 0 ≤ c ∧ c < r.length) ∨ ((k = 4 ∨ k = 5) ∧ okEs r l) ∨ (k = 6 ∧ l.length = 1 ∧ okEs r l)
def okEs (r : List Vc) : List Pt → Prop
  | [] => True
  | q :: t => okE r q ∧ okEs r t
end
theorem okEs_mem {r : List Vc} : ∀ {l : List Pt}, okEs r l → ∀ {i : Nat} {q : Pt}, l[i]? = some q → okE r q
  | [], _, i, q, h => by simp at h
  | p :: t, h, 0, q, hq => by
    unfold okEs at h
    simp only [List.getElem?_cons_zero, Option.some.injEq] at hq
    exact hq ▸ h.1
  | p :: t, h, i + 1, q, hq => by
    unfold okEs at h
    exact okEs_mem h.2 (by simpa using hq)
theorem okEs_of {r : List Vc} : ∀ {l : List Pt}, (∀ q ∈ l, okE r q) → okEs r l
  | [], _ => by unfold okEs; trivial
  | p :: t, h => by unfold okEs; exact ⟨h p List.mem_cons_self, okEs_of fun q hq => h q (List.mem_cons_of_mem _ hq)⟩

def outE (W : Int) (vs : List Int) : Int := if 3 ∈ vs then 3 else W

theorem evalT_range (r : List Vc) (p : Pt) : evalT r p = 1 ∨ evalT r p = 2 ∨ evalT r p = 3 := by
  have hl : ∀ (s v : Int) (l : List Int), (s = 1 ∨ s = 2 ∨ s = 3) → (v = 1 ∨ v = 2 ∨ v = 3) → listE s v l = 1 ∨ listE s v l = 2 ∨ listE s v l = 3 := fun s v l hs hv => by
    unfold listE
    split
    · exact hs
    · split
      · exact .inr (.inr rfl)
      · exact hv
  have hv : ∀ b, verdB b = 1 ∨ verdB b = 2 ∨ verdB b = 3 := fun b => by cases b <;> simp [verdB]
  have hev : ∀ (d : Nat) (q : Pt), depT q ≤ d → evalT r q = 1 ∨ evalT r q = 2 ∨ evalT r q = 3 := by
    intro d
    induction d with
    | zero => intro q hq; obtain ⟨k, c, o, v, l⟩ := q; unfold depT at hq; omega
    | succ d ih =>
      intro q hq
      obtain ⟨k, c, o, v, l⟩ := q
      unfold depT at hq
      unfold evalT
      split
      · exact .inl rfl
      · split
        · unfold cmpE
          split
          · exact .inr (.inr rfl)
          · split
            · exact .inr (.inr rfl)
            · exact hv _
        · split
          · unfold nullE
            split
            · exact .inr (.inr rfl)
            · exact hv _
          · split
            · exact hl _ _ _ (.inr (.inl rfl)) (.inl rfl)
            · split
              · exact hl _ _ _ (.inl rfl) (.inr (.inl rfl))
              · split
                · rw [evalL_eq]
                  match l with
                  | [] => exact .inr (.inr rfl)
                  | [q] =>
                    have := ih q (by have := depL_mem (l := [q]) (k := 0) (q := q) rfl; omega)
                    rcases this with h | h | h <;> simp [h, otherT]
                  | q :: q2 :: t => exact .inr (.inr rfl)
                · exact .inr (.inr rfl)
  exact hev _ p (Nat.le_refl _)
theorem colT_in {r : List Vc} {c : Int} (h0 : 0 ≤ c) (h1 : c < r.length) : ∃ n : Nat, ∃ x, c = (n : Int) ∧ n < r.length ∧ r[n]? = some x ∧ colT r c = some x := by
  rcases colT_cases r c with ⟨h, _⟩ | ⟨_, h, _⟩ | h
  · omega
  · omega
  · exact h

end Go.Proofs.Ytnfjdoeemnhkbaa
