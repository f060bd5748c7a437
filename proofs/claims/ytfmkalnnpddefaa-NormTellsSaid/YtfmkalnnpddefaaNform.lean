/-
  Plain: the form of a form is itself.
-/
import Derived.Test.YtfmkalnnpddefaaNkeym
import Derived.Test.YtfmkalnnpddefaaColn
namespace Go.Proofs.Ytfmkalnnpddefaa
set_option linter.unusedVariables false
set_option linter.unusedSimpArgs false

/-- A thing of a form. -/
def formL (t : Pt) : Prop := match t with
  | .mk k c o v l => k = 2 ∨ k = 3 ∨ (k = 6 ∧ c = 0 ∧ o = 0 ∧ v = zeroV ∧ ∃ c' o' v' l', l = [.mk 3 c' o' v' l'])
theorem form_things {p : Pt} {nt : Bool} {a : List (List Pt)} (h : nrm p nt = some a) : ∀ x ∈ a, ∀ t ∈ x, formL t :=
  nrm_all (R := fun _ => True) (Q := formL) ⟨fun c o v l _ o' _ => .inl rfl, fun c o v l _ => ⟨.inr (.inl rfl), .inr (.inr ⟨rfl, rfl, rfl, rfl, c, o, v, l, rfl⟩)⟩⟩ (fun _ _ _ _ _ _ _ _ _ => trivial) p nt trivial h
theorem nrm_thing {t : Pt} (h : formL t) : nrm t false = some [[t]] := by
  obtain ⟨k, c, o, v, l⟩ := t
  rcases h with rfl | rfl | ⟨rfl, rfl, rfl, rfl, c', o', v', l', rfl⟩
  · unfold nrm; simp
  · unfold nrm; simp
  · rw [nrm, nrmOne_one, nrm]
    simp
theorem prod_things : ∀ (x out : List Pt), (∀ t ∈ x, formL t) → out.length + x.length ≤ 32 → prodN x false [out] = some [out ++ x]
  | [], out, _, _ => by unfold prodN; simp
  | t :: r, out, h, hl => by
    rw [List.length_cons] at hl
    unfold prodN
    rw [nrm_thing (h t List.mem_cons_self)]
    have h1 : timesN [out] [[t]] = some [out ++ [t]] := by
      unfold timesN fitsB prodL
      simp
      omega
    simp only [h1]
    rw [prod_things r (out ++ [t]) (fun q hq => h q (List.mem_cons_of_mem _ hq)) (by simp; omega)]
    simp
theorem nrm_and {x : List Pt} (h : ∀ t ∈ x, formL t) (hl : x.length ≤ 32) : nrm (.mk 4 0 0 zeroV x) false = some [x] := by
  unfold nrm
  have := prod_things x [] h (by simpa using hl)
  simpa using this
theorem sum_ands : ∀ (a out : List (List Pt)), (∀ x ∈ a, (∀ t ∈ x, formL t) ∧ x.length ≤ 32) → out.length + a.length ≤ 32 → sumN (a.map fun x => .mk 4 0 0 zeroV x) false out = some (out ++ a)
  | [], out, _, _ => by unfold sumN; simp
  | x :: r, out, h, hl => by
    rw [List.length_cons] at hl
    rw [List.map_cons]
    unfold sumN
    obtain ⟨h1, h2⟩ := h x List.mem_cons_self
    rw [nrm_and h1 h2]
    simp only
    rw [if_neg (by simp; omega), sum_ands r (out ++ [x]) (fun q hq => h q (List.mem_cons_of_mem _ hq)) (by simp; omega)]
    simp
/-- The form of a form is itself. -/
theorem nrm_form {p : Pt} {nt : Bool} {a : List (List Pt)} (h : nrm p nt = some a) : nrm (.mk 5 0 0 zeroV (a.map fun x => .mk 4 0 0 zeroV x)) false = some a := by
  have hs := nrm_small p nt h
  have ht := form_things h
  unfold nrm
  have := sum_ands a [] (fun x hx => ⟨ht x hx, hs.2 x hx⟩) (by simpa using hs.1)
  simpa using this

end Go.Proofs.Ytfmkalnnpddefaa
