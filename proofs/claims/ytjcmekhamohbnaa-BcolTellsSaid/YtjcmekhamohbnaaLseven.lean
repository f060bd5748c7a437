/-
  Predicates as trees; how they read; what they are of a row.
  Contracts of package pred's small ones: holds, verdict, other, evalCmp, evalNull.
  Contracts of pred's eval and evalList, by induction; pred.Eval.
  Contract of pred's eval, by induction; pred.Eval.
  What lies from a block on; contracts of bytes.Clone and fresh.Val.
  Predicates that lie from a block on; rows of eight cells, written one by one.
  Contracts of fresh's pred$1 and of its list at predicates, over such copies of what is in the list.
  Contract of fresh's list at predicates, with its pred$1.
  Contract of fresh's pred, by induction.
  Contract of fresh.Pred.
  Contracts of pred's All, Any, Not.
-/
import Derived.Test.YtjcmekhamohbnaaLsix
import Derived.Deep.RegionHeld3
import Derived.BigRegion
import Derived.Deep.DeepCutAuto
namespace Go.Proofs.Ytjcmekhamohbnaa
set_option linter.unusedVariables false
set_option linter.unusedSimpArgs false
open Go.RowKit

inductive Pt where
  | mk (k c o : Int) (v : Vc) (l : List Pt)

def cellsP (k c o : Int) (v : Vc) (s ls : Value) : List Value := [.int .i64 k, .int .i64 c, .int .i64 o, .bool v.u, .int .i64 v.k, .int .i64 v.n, s, ls]
mutual
def RdT1 (w : World) : Pt → List Value → Prop
  | .mk k c o v l, cs => ∃ s ls css, cs = cellsP k c o v s ls ∧ OkV w (v, s) ∧ RdS w 8 ls css ∧ RdTs w l css
def RdTs (w : World) : List Pt → List (List Value) → Prop
  | [], [] => True
  | q :: r, cs :: t => RdT1 w q cs ∧ RdTs w r t
  | [], _ :: _ => False
  | _ :: _, [] => False
end

mutual
theorem RdT1.kept {w w' : World} (hb : Below w.heap.size w w') : ∀ (p : Pt) {cs : List Value}, RdT1 w p cs → RdT1 w' p cs
  | .mk k c o v l, cs, h => by
    unfold RdT1 at h ⊢
    obtain ⟨s, ls, css, h1, h2, h3, h4⟩ := h
    exact ⟨s, ls, css, h1, h2.kept hb, h3.kept hb, RdTs.kept hb l h4⟩
theorem RdTs.kept {w w' : World} (hb : Below w.heap.size w w') : ∀ (l : List Pt) {css : List (List Value)}, RdTs w l css → RdTs w' l css
  | [], [], _ => by unfold RdTs; trivial
  | q :: r, cs :: t, h => by
    unfold RdTs at h ⊢
    exact ⟨RdT1.kept hb q h.1, RdTs.kept hb r h.2⟩
  | [], _ :: _, h => by unfold RdTs at h; exact h.elim
  | _ :: _, [], h => by unfold RdTs at h; exact h.elim
end

end Go.Proofs.Ytjcmekhamohbnaa

namespace Go.Proofs.Ytjcmekhamohbnaa
set_option linter.unusedVariables false
set_option linter.unusedSimpArgs false
open Go.RowKit

end Go.Proofs.Ytjcmekhamohbnaa

namespace Go.Proofs.Ytjcmekhamohbnaa
set_option linter.unusedVariables false
set_option linter.unusedSimpArgs false
open Go.RowKit

end Go.Proofs.Ytjcmekhamohbnaa

namespace Go.Proofs.Ytjcmekhamohbnaa
set_option linter.unusedVariables false
set_option linter.unusedSimpArgs false
open Go.RowKit

end Go.Proofs.Ytjcmekhamohbnaa

namespace Go.Proofs.Ytjcmekhamohbnaa
set_option linter.unusedVariables false
set_option linter.unusedSimpArgs false
open Go.RowKit

def Above (K : Nat) (w w' : World) : Prop := ∀ b, K ≤ b → b < w.heap.size → w'.heap[b]? = w.heap[b]?
theorem Above.refl (K : Nat) (w : World) : Above K w w := fun _ _ _ => rfl
theorem Above.trans {K : Nat} {a b c : World} (h : Above K a b) (hs : a.heap.size ≤ b.heap.size) (k : Above K b c) : Above K a c := fun x h1 h2 => (k x h1 (Nat.lt_of_lt_of_le h2 hs)).trans (h x h1 h2)
theorem Above.mono {K K' : Nat} {w w' : World} (h : Above K w w') (hk : K ≤ K') : Above K' w w' := fun x h1 h2 => h x (Nat.le_trans hk h1) h2
theorem above_cell {K b i : Nat} {w w' : World} {u : Value} (h : Above K w w') (hb : K ≤ b) (hc : w.cell? ⟨b, i, none⟩ = some u) : w'.cell? ⟨b, i, none⟩ = some u := by
  have hlt := World.block_lt_of_cell? w _ hc
  have := h b hb hlt
  rw [← hc]
  simp only [World.cell?, this]

def RdB (K : Nat) (w : World) (s : Value) (bs : List Nat) : Prop := ∃ ao cap, s = .slice ao bs.length cap ∧ ((ao = none → cap = 0) ∧ bs.length ≤ cap) ∧ (0 < bs.length → ∃ b off, ao = some ⟨b, off, none⟩ ∧ K ≤ b ∧ ∀ i, i < bs.length → w.cell? ⟨b, off + i, none⟩ = some (u8v (bs.getD i 0)))
theorem RdB.rd {K : Nat} {w w' : World} {s : Value} {bs : List Nat} (h : RdB K w s bs) (ha : Above K w w') : Rd w' s (bs.map u8v) := by
  obtain ⟨ao, cap, hv, hn, hc⟩ := h
  refine ⟨ao, cap, by rw [List.length_map]; exact hv, by rw [List.length_map]; exact hn, fun hp => ?_⟩
  rw [List.length_map] at hp
  obtain ⟨b, off, h1, h2, h3⟩ := hc hp
  refine ⟨b, off, h1, fun i hi => ?_⟩
  rw [List.length_map] at hi
  rw [above_cell ha h2 (h3 i hi), List.getD_eq_getElem?_getD, List.getD_eq_getElem?_getD, List.getElem?_map, List.getElem?_eq_getElem hi]
  rfl

end Go.Proofs.Ytjcmekhamohbnaa

namespace Go.Proofs.Ytjcmekhamohbnaa
set_option linter.unusedVariables false
set_option linter.unusedSimpArgs false
open Go.RowKit

def RdSK (K : Nat) (w : World) (sz : Nat) (v : Value) (ls : List (List Value)) : Prop :=
  ∃ ao cap, v = .slice ao ls.length cap ∧ ((ao = none → cap = 0) ∧ ls.length ≤ cap) ∧
    ∀ k t, ls[k]? = some t → ∃ b off, ao = some ⟨b, off, none⟩ ∧ K ≤ b ∧ ∀ j u, t[j]? = some u → w.cell? ⟨b, off + k * sz + j, none⟩ = some u
theorem RdSK.rd {K : Nat} {w : World} {sz : Nat} {v : Value} {ls : List (List Value)} (h : RdSK K w sz v ls) : RdS w sz v ls := by
  obtain ⟨ao, cap, hv, hn, hc⟩ := h
  refine ⟨ao, cap, hv, hn, fun k t ht => ?_⟩
  obtain ⟨b, off, h1, _, h3⟩ := hc k t ht
  exact ⟨b, off, h1, h3⟩
mutual
def RdA1 (K : Nat) (w : World) : Pt → List Value → Prop
  | .mk k c o v l, cs => ∃ s ls css, cs = cellsP k c o v s ls ∧ (RdB K w s v.b ∧ ∀ x ∈ v.b, x < 256) ∧ RdSK K w 8 ls css ∧ RdAs K w l css
def RdAs (K : Nat) (w : World) : List Pt → List (List Value) → Prop
  | [], [] => True
  | q :: r, cs :: t => RdA1 K w q cs ∧ RdAs K w r t
  | [], _ :: _ => False
  | _ :: _, [] => False
end

mutual
theorem RdA1.rd {K : Nat} {w : World} : ∀ (p : Pt) {cs : List Value}, RdA1 K w p cs → RdT1 w p cs
  | .mk k c o v l, cs, h => by
    unfold RdA1 at h
    unfold RdT1
    obtain ⟨s, ls, css, h1, h2, h3, h4⟩ := h
    exact ⟨s, ls, css, h1, ⟨h2.1.rd (Above.refl _ _), h2.2⟩, h3.rd, RdAs.rd l h4⟩
theorem RdAs.rd {K : Nat} {w : World} : ∀ (l : List Pt) {css : List (List Value)}, RdAs K w l css → RdTs w l css
  | [], [], _ => by unfold RdTs; trivial
  | q :: r, cs :: t, h => by
    unfold RdAs at h
    unfold RdTs
    exact ⟨RdA1.rd q h.1, RdAs.rd r h.2⟩
  | [], _ :: _, h => by unfold RdAs at h; exact h.elim
  | _ :: _, [], h => by unfold RdAs at h; exact h.elim
end
theorem RdAs.snoc {K : Nat} {w : World} {q : Pt} {cs : List Value} (hq : RdA1 K w q cs) : ∀ {l : List Pt} {css : List (List Value)}, RdAs K w l css → RdAs K w (l ++ [q]) (css ++ [cs])
  | [], [], _ => by unfold RdAs; exact ⟨hq, by unfold RdAs; trivial⟩
  | p :: r, c :: t, h => by
    unfold RdAs at h
    show RdAs K w (p :: (r ++ [q])) (c :: (t ++ [cs]))
    unfold RdAs
    exact ⟨h.1, RdAs.snoc hq h.2⟩
  | [], _ :: _, h => by unfold RdAs at h; exact h.elim
  | _ :: _, [], h => by unfold RdAs at h; exact h.elim
end Go.Proofs.Ytjcmekhamohbnaa

namespace Go.Proofs.Ytjcmekhamohbnaa
set_option linter.unusedVariables false
set_option linter.unusedSimpArgs false
open Go.RowKit

structure Cap (w : World) (db pb lb : Nat) (D : Int) : Prop where
  d : w.heap[db]? = some (.cells #[.int .i64 D] 3 (0, 0))
  p : w.heap[pb]? = some (.cells #[.pointer (some ⟨lb, 0, none⟩)] 109 (0, 0))
  nd : db ≠ lb
  np : pb ≠ lb
theorem Cap.grown {w w' : World} {db pb lb : Nat} {D : Int} (h : Cap w db pb lb D) (hg : w.grownBy w' (some lb)) : Cap w' db pb lb D :=
  ⟨(hg.block db (Array.getElem?_eq_some_iff.1 h.d).1 (fun e => by cases e; exact h.nd rfl)).trans h.d, (hg.block pb (Array.getElem?_eq_some_iff.1 h.p).1 (fun e => by cases e; exact h.np rfl)).trans h.p, h.nd, h.np⟩

end Go.Proofs.Ytjcmekhamohbnaa

namespace Go.Proofs.Ytjcmekhamohbnaa
set_option linter.unusedVariables false
set_option linter.unusedSimpArgs false
open Go.RowKit

end Go.Proofs.Ytjcmekhamohbnaa

namespace Go.Proofs.Ytjcmekhamohbnaa
set_option linter.unusedVariables false
set_option linter.unusedSimpArgs false
open Go.RowKit

end Go.Proofs.Ytjcmekhamohbnaa

namespace Go.Proofs.Ytjcmekhamohbnaa
set_option linter.unusedVariables false
set_option linter.unusedSimpArgs false
open Go.RowKit

end Go.Proofs.Ytjcmekhamohbnaa

namespace Go.Proofs.Ytjcmekhamohbnaa
set_option linter.unusedVariables false
set_option linter.unusedSimpArgs false
open Go.RowKit

end Go.Proofs.Ytjcmekhamohbnaa
