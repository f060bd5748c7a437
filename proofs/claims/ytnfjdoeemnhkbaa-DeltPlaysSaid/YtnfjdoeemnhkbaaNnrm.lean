/-
  Contract of norm.normal, by induction.
-/
import Derived.Test.YtnfjdoeemnhkbaaNsum
namespace Go.Proofs.Ytnfjdoeemnhkbaa
set_option linter.unusedVariables false
set_option linter.unusedSimpArgs false
open Go.RowKit

theorem one_n {Y : Nat → Prop} {wz : World} {cs : Array Value} {p' : Pt} (hY : ∀ b, Y b → b < wz.heap.size) (h8 : cs.size = 8) (h : Free Y wz (fun w' => RdT1 w' p' cs.toList)) :
    RdNF Y ((wz.alloc (.cells cs 65)).alloc (.cells #[.slice (some ⟨wz.heap.size, 0, none⟩) 1 1] 63)) (.slice (some ⟨wz.heap.size + 1, 0, none⟩) 1 1) [[p']] := by
  have hsz : (wz.alloc (.cells cs 65)).heap.size = wz.heap.size + 1 := by simp
  refine ⟨[.slice (some ⟨wz.heap.size, 0, none⟩) 1 1], fun w' ha => ?_, rfl, fun i s l hs hl => ?_⟩
  · have := rd_lit_agree (w := wz.alloc (.cells cs 65)) (cs := #[.slice (some ⟨wz.heap.size, 0, none⟩) 1 1]) (E := 63) ha (fun b hb => by have := hY b hb; omega)
    rw [hsz] at this
    exact this
  · match i, hs, hl with
    | i + 1, hs, hl => simp at hs
    | 0, hs, hl =>
      cases hs
      cases hl
      refine ⟨[cs.toList], fun w' ha => ⟨?_, ?_⟩⟩
      · have h1 : w'.heap[wz.heap.size]? = some (.cells cs 65 (0, 0)) := (ha.block wz.heap.size (by simp; omega) fun e => by have := hY _ e; omega).trans ((heap_alloc_old _ _ (by rw [hsz]; omega)).trans (heap_alloc_new wz _))
        refine ⟨some ⟨wz.heap.size, 0, none⟩, 1, rfl, ⟨(fun h => by cases h), Nat.le_refl _⟩, fun k t ht => ⟨wz.heap.size, 0, rfl, fun j u hu => ?_⟩⟩
        have hk : k = 0 := by have := (List.getElem?_eq_some_iff.1 ht).1; simp at this; omega
        subst hk
        simp only [List.getElem?_cons_zero, Option.some.injEq] at ht
        subst ht
        rw [cell_of_row w' wz.heap.size _ _ _ _ h1]
        simpa using hu
      · unfold RdTs
        exact ⟨h w' (((agree_alloc Y wz _).alloc _).trans ha), by unfold RdTs; trivial⟩

theorem rdT1F_op {X : Nat → Prop} {w : World} {k c o : Int} (o' : Int) {v : Vc} {l : List Pt} {s ls : Value} (h : RdT1F X w (.mk k c o v l) (cellsP k c o v s ls)) : RdT1F X w (.mk k c o' v l) (cellsP k c o' v s ls) := by
  unfold RdT1F at h ⊢
  obtain ⟨s', ls', css, he, h2, h3, h4⟩ := h
  simp only [cellsP, List.cons.injEq, true_and, and_true] at he
  obtain ⟨rfl, rfl⟩ := he
  exact ⟨s, ls, css, rfl, h2, h3, h4⟩
theorem prod_or_sum (k : Int) (nt : Bool) (c o : Int) (v : Vc) (l : List Pt) (h : k = 4 ∨ k = 5) : nrm (.mk k c o v l) nt = if (decide (k = 4) != nt) = true then prodN l nt [[]] else sumN l nt [] := by
  unfold nrm
  rcases h with rfl | rfl <;> simp

end Go.Proofs.Ytnfjdoeemnhkbaa
