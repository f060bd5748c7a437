/-
  Contracts of norm.sum and norm.product, of what normal answers for each.
-/
import Derived.Test.YtnfjdoeemnhkbaaNtim
import Derived.Test.YtnfjdoeemnhkbaaLseven
namespace Go.Proofs.Ytnfjdoeemnhkbaa
set_option linter.unusedVariables false
set_option linter.unusedSimpArgs false
open Go.RowKit

theorem ownN_append {X : Nat → Prop} {B lb : Nat} {wr w1 w2 w3 : World} {v v3 : Value} {o mm : List (List Pt)} {sls yls : List Value}
    (hown : wr.ownsRow B 63 1 v o.length sls) (hlen : sls.length = o.length) (hel : ∀ (i : Nat) (s : Value) (l : List Pt), sls[i]? = some s → o[i]? = some l → RdLF (fun b => (X b ∧ b < B) ∨ v.ownBlock = some b) wr s l)
    (hx : X lb) (hlb : lb < B) (hB : B ≤ wr.heap.size) (hs1 : wr.heap.size ≤ w1.heap.size) (hag : wr.grownBy w2 (some lb))
    (hyl : yls.length = mm.length) (hyel : ∀ (i : Nat) (s : Value) (l : List Pt), yls[i]? = some s → mm[i]? = some l → RdLF (fun b => (X b ∨ B ≤ b) ∧ b < w1.heap.size) w2 s l)
    (hg : w2.grownBy w3 v.ownBlock) (hnew : ∀ g, v3.ownBlock = some g → v.ownBlock = some g ∨ g = w2.heap.size)
    (h3 : w3.ownsRow B 63 1 v3 (o.length + mm.length) (sls ++ yls)) : OwnN X B w3 v3 (o ++ mm) := by
  have hold : ∀ b, v.ownBlock = some b → B ≤ b ∧ b < wr.heap.size := fun b hb => hown.lt b hb
  have hs2 := hag.size
  refine ⟨sls ++ yls, by rw [List.length_append]; exact h3, by rw [List.length_append, List.length_append, hlen, hyl], fun i t lt hi hli => ?_⟩
  by_cases hlt : i < sls.length
  · rw [List.getElem?_append_left hlt] at hi
    rw [List.getElem?_append_left (by rw [← hlen]; exact hlt)] at hli
    have h23 : Agree (fun b => b = lb ∨ v.ownBlock = some b) wr w3 := ((agree_grown hag).mono fun b _ h => .inl (Option.some.inj h).symm).then (agree_grown hg) fun b _ h => .inr h
    refine (hel i t lt hi hli).to h23 (fun b _ h => ?_) (fun b hb h => ?_)
    · rcases h with rfl | h
      · exact .inl ⟨hx, hlb⟩
      · exact .inr h
    · rcases h with h | h
      · exact .inl h
      · rcases hnew b h with h | h
        · exact .inr h
        · omega
  · rw [List.getElem?_append_right (by omega)] at hi
    rw [List.getElem?_append_right (by rw [← hlen]; omega), ← hlen] at hli
    refine (hyel _ t lt hi hli).to (agree_grown hg) (fun b _ h => ?_) (fun b hb h => ?_)
    · have h1 := hold b h
      exact ⟨.inr h1.1, by omega⟩
    · rcases h with h | h
      · exact ⟨.inl h.1, by have := h.2; omega⟩
      · rcases hnew b h with h | h
        · have h1 := hold b h
          exact ⟨.inr h1.1, by omega⟩
        · omega

theorem rd_lit_agree {X : Nat → Prop} {w w' : World} {cs : Array Value} {E : TypeId} {n : Nat} (h : Agree X (w.alloc (.cells cs E)) w') (hx : ∀ b, X b → b < w.heap.size) (hn : n = cs.toList.length := by rfl) : Rd w' (.slice (some ⟨w.heap.size, 0, none⟩) n n) cs.toList := by
  subst hn
  refine ⟨some ⟨w.heap.size, 0, none⟩, cs.toList.length, rfl, ⟨(fun h => by cases h), Nat.le_refl _⟩, fun _ => ⟨w.heap.size, 0, rfl, fun i hi => ?_⟩⟩
  have h1 : w'.heap[w.heap.size]? = some (.cells cs E (0, 0)) := (h.block w.heap.size (by simp) fun e => by have := hx _ e; omega).trans (heap_alloc_new w _)
  rw [cell_of_row w' w.heap.size _ _ _ _ h1, Nat.zero_add, List.getD_eq_getElem?_getD, List.getElem?_eq_getElem hi]
  rw [← Array.getElem?_toList, List.getElem?_eq_getElem hi]
  rfl

/-- What a round knows of the predicate at hand. -/
theorem free_at {X : Nat → Prop} {w wr : World} {ls : Value} {l : List Pt} {css : List (List Value)} {lb k : Nat} {p : Pt} (h : Free X w (fun w' => RdS w' 8 ls css) ∧ RdTsF X w l css) (hx : X lb) (hg : w.grownBy wr (some lb)) (hp : l[k]? = some p) :
    ∃ cs, css[k]? = some cs ∧ RdT1F (fun b => X b ∨ w.heap.size ≤ b) wr p cs ∧ RdS wr 8 ls css := by
  obtain ⟨cs, h1, h2⟩ := h.2.at hp
  exact ⟨cs, h1, RdT1F.to (agree_grown hg) (fun b _ h => by cases h; exact hx) (fun b hb h => h.elim id fun h => by omega) _ h2, h.1 wr ((agree_grown hg).mono fun b _ h => by cases h; exact hx)⟩

end Go.Proofs.Ytnfjdoeemnhkbaa
