/-
  Contracts: norm.isKey, slices.IndexFunc of it, norm.Key.
-/
import Derived.Test.YtnfjdoeemnhkbaaNorm
namespace Go.Proofs.Ytnfjdoeemnhkbaa
set_option linter.unusedVariables false
set_option linter.unusedSimpArgs false
open Go.RowKit

/-- The first place at which f holds, or -1. -/
def idxT {α : Type} (f : α → Bool) (l : List α) : Int := match l.findIdx? f with
  | some i => (i : Int)
  | none => -1
theorem idxT_found {α : Type} {f : α → Bool} {l : List α} {q : Nat} {x : α} (h : l[q]? = some x) (hx : f x = true) (hn : ∀ y ∈ l.take q, f y = false) : idxT f l = (q : Int) := by
  have e : l = l.take q ++ x :: l.drop (q + 1) := by
    have hlt := (List.getElem?_eq_some_iff.1 h).1
    rw [← (List.getElem?_eq_some_iff.1 h).2]
    rw [← List.drop_eq_getElem_cons hlt, List.take_append_drop]
  unfold idxT
  have hfi : l.findIdx? f = some q := by
    have hlt := (List.getElem?_eq_some_iff.1 h).1
    rw [List.findIdx?_eq_some_iff_getElem]
    refine ⟨hlt, by rw [(List.getElem?_eq_some_iff.1 h).2]; exact hx, fun j hj => ?_⟩
    have := hn l[j] (List.mem_iff_getElem.2 ⟨j, by rw [List.length_take]; omega, by rw [List.getElem_take]⟩)
    simp [this]
  rw [hfi]
theorem idxT_none {α : Type} {f : α → Bool} {l : List α} (hn : ∀ y ∈ l, f y = false) : idxT f l = -1 := by
  unfold idxT
  have : l.findIdx? f = none := by
    rw [List.findIdx?_eq_none_iff]
    exact hn
  rw [this]

def keyNV (p : Pt) : Int := (keyT p).getD 0
def keyNB (p : Pt) : Bool := (keyT p).isSome
theorem idxT_cases (l : List Pt) : (idxT isKeyT l = -1 ∧ l.find? isKeyT = none) ∨ ∃ (i : Nat) (t : Pt), idxT isKeyT l = (i : Int) ∧ l[i]? = some t ∧ l.find? isKeyT = some t := by
  unfold idxT
  cases h : l.findIdx? isKeyT with
  | none => exact .inl ⟨rfl, by rw [List.findIdx?_eq_none_iff] at h; rw [List.find?_eq_none]; intro x hx; rw [h x hx]; simp⟩
  | some i =>
    refine .inr ⟨i, ?_⟩
    rw [List.findIdx?_eq_some_iff_getElem] at h
    obtain ⟨h1, h2, h3⟩ := h
    refine ⟨l[i], rfl, List.getElem?_eq_getElem h1, ?_⟩
    rw [List.find?_eq_some_iff_getElem]
    exact ⟨h2, i, h1, rfl, fun j hj => by simpa using h3 j hj⟩
theorem rdA1_cells {K : Nat} {w : World} {k c o : Int} {v : Vc} {l : List Pt} {cs : List Value} (h : RdA1 K w (.mk k c o v l) cs) : ∃ sa sc ea css ec, cs = cellsP k c o v (.slice sa v.b.length sc) (.slice ea l.length ec) ∧ RdSK K w 8 (.slice ea l.length ec) css ∧ RdAs K w l css := by
  unfold RdA1 at h
  obtain ⟨s, ls, css, rfl, h1, h2, h3⟩ := h
  obtain ⟨sa, sc, rfl⟩ := rdB_shape h1.1
  obtain ⟨ea, ec, rfl⟩ := rdS_shape h2.rd
  have hl := rdAs_len h3
  rw [hl] at h2
  exact ⟨sa, sc, ea, css, ec, by rw [hl], h2, h3⟩

end Go.Proofs.Ytnfjdoeemnhkbaa
