import Derived.Lib.AppendZeros
import Derived.Test.YtnfjdoeemnhkbaaFrAp
import Derived.Test.YtnfjdoeemnhkbaaLseven
set_option linter.unusedVariables false
set_option linter.unusedSimpArgs false
namespace Go.Proofs.Ytnfjdoeemnhkbaa
open Go.RowKit
open _root_.List renaming getElem?_eq_getElem -> Qa
mutual
def RdT1F (X : Nat -> Prop) (w : World) : Pt -> List Value -> Prop
 | .mk k c o v l, cs => ∃ s ls css, cs = cellsP k c o v s ls ∧ Free X w (fun w' => OkV w' (v, s)) ∧ Free X w (fun w' => RdS w' 8 ls css) ∧ RdTsF X w l css
def RdTsF (X : Nat -> Prop) (w : World) : List Pt -> List (List Value) -> Prop
 | [], [] => True
 | q :: r, cs :: t => RdT1F X w q cs ∧ RdTsF X w r t
 | [], _ :: _ => False
 | _ :: _, [] => False
end
mutual
theorem RdT1F.to {X Y Z : Nat -> Prop} {w w' : World} (ha : Agree Z w w') (hz : ∀ i, i < w.heap.size -> Z i -> X i) (hy : ∀ i, i < w.heap.size -> Y i -> X i) : ∀ (p : Pt) {cs : List Value}, RdT1F X w p cs -> RdT1F Y w' p cs
 | .mk k c o v l, cs, h => by
  unfold RdT1F at h ⊢
  obtain ⟨s, ls, css, h1, h2, h3, h4⟩ := h
  exact ⟨s, ls, css, h1, h2.to ha hz hy, h3.to ha hz hy, RdTsF.to ha hz hy l h4⟩
theorem RdTsF.to {X Y Z : Nat -> Prop} {w w' : World} (ha : Agree Z w w') (hz : ∀ i, i < w.heap.size -> Z i -> X i) (hy : ∀ i, i < w.heap.size -> Y i -> X i) : ∀ (l : List Pt) {css : List (List Value)}, RdTsF X w l css -> RdTsF Y w' l css
 | [], [], _ => by unfold RdTsF; trivial
 | q :: r, cs :: t, h => by
  unfold RdTsF at h ⊢
  exact ⟨RdT1F.to ha hz hy q h.1, RdTsF.to ha hz hy r h.2⟩
 | [], _ :: _, h => by unfold RdTsF at h; exact h.elim
 | _ :: _, [], h => by unfold RdTsF at h; exact h.elim
end
mutual
theorem RdT1F.free {X : Nat -> Prop} {w : World} : ∀ (p : Pt) {cs : List Value}, RdT1F X w p cs -> Free X w (fun w' => RdT1 w' p cs)
 | .mk k c o v l, cs, h => by
  unfold RdT1F at h
  obtain ⟨s, ls, css, h1, h2, h3, h4⟩ := h
  intro w' ha
  unfold RdT1
  exact ⟨s, ls, css, h1, h2 w' ha, h3 w' ha, RdTsF.free l h4 w' ha⟩
theorem RdTsF.free {X : Nat -> Prop} {w : World} : ∀ (l : List Pt) {css : List (List Value)}, RdTsF X w l css -> Free X w (fun w' => RdTs w' l css)
 | [], [], _ => fun w' _ => by unfold RdTs; trivial
 | q :: r, cs :: t, h => fun w' ha => by
  unfold RdTsF at h
  unfold RdTs
  exact ⟨RdT1F.free q h.1 w' ha, RdTsF.free r h.2 w' ha⟩
 | [], _ :: _, h => by unfold RdTsF at h; exact h.elim
 | _ :: _, [], h => by unfold RdTsF at h; exact h.elim
end
theorem RdT1F.now {X : Nat -> Prop} {w : World} {p : Pt} {cs : List Value} (h : RdT1F X w p cs) : RdT1 w p cs := (RdT1F.free p h).now
theorem RdTsF.now {X : Nat -> Prop} {w : World} {l : List Pt} {css : List (List Value)} (h : RdTsF X w l css) : RdTs w l css := (RdTsF.free l h).now
theorem RdTsF.at {X : Nat -> Prop} {w : World} : ∀ {l : List Pt} {css : List (List Value)}, RdTsF X w l css -> ∀ {k : Nat} {q : Pt}, l[k]? = some q -> ∃ cs, css[k]? = some cs ∧ RdT1F X w q cs
 | [], [], _, k, q, hk => by simp at hk
 | p :: r, cs :: t, h, 0, q, hk => by
  unfold RdTsF at h
  simp only [List.getElem?_cons_zero, Option.some.injEq] at hk
  subst hk
  exact ⟨cs, rfl, h.1⟩
 | p :: r, cs :: t, h, k + 1, q, hk => by
  unfold RdTsF at h
  rw [List.getElem?_cons_succ] at hk ⊢
  exact RdTsF.at h.2 hk
 | [], _ :: _, h, _, _, _ => by unfold RdTsF at h; exact h.elim
 | _ :: _, [], h, _, _, _ => by unfold RdTsF at h; exact h.elim
def RdLF (X : Nat -> Prop) (w : World) (s : Value) (l : List Pt) : Prop := ∃ css, Free X w (fun w' => RdS w' 8 s css ∧ RdTs w' l css)
def RdNF (X : Nat -> Prop) (w : World) (v : Value) (a : List (List Pt)) : Prop :=
 ∃ sls, Free X w (fun w' => Rd w' v sls) ∧ sls.length = a.length ∧ ∀ (i : Nat) (s : Value) (l : List Pt), sls[i]? = some s -> a[i]? = some l -> RdLF X w s l
theorem RdLF.to {X Y Z : Nat -> Prop} {w w' : World} {s : Value} {l : List Pt} (h : RdLF X w s l) (ha : Agree Z w w') (hz : ∀ i, i < w.heap.size -> Z i -> X i) (hy : ∀ i, i < w.heap.size -> Y i -> X i) : RdLF Y w' s l := by
 obtain ⟨css, h⟩ := h
 exact ⟨css, h.to ha hz hy⟩
theorem RdLF.mono {X Y : Nat -> Prop} {w : World} {s : Value} {l : List Pt} (h : RdLF X w s l) (hy : ∀ i, i < w.heap.size -> Y i -> X i) : RdLF Y w s l := by
 obtain ⟨css, h⟩ := h
 exact ⟨css, h.mono hy⟩
theorem RdNF.to {X Y Z : Nat -> Prop} {w w' : World} {v : Value} {a : List (List Pt)} (h : RdNF X w v a) (ha : Agree Z w w') (hz : ∀ i, i < w.heap.size -> Z i -> X i) (hy : ∀ i, i < w.heap.size -> Y i -> X i) : RdNF Y w' v a := by
 obtain ⟨sls, h1, h2, h3⟩ := h
 exact ⟨sls, h1.to ha hz hy, h2, fun i s l hs hl => (h3 i s l hs hl).to ha hz hy⟩
theorem RdNF.mono {X Y : Nat -> Prop} {w : World} {v : Value} {a : List (List Pt)} (h : RdNF X w v a) (hy : ∀ i, i < w.heap.size -> Y i -> X i) : RdNF Y w v a := by
 obtain ⟨sls, h1, h2, h3⟩ := h
 exact ⟨sls, h1.mono hy, h2, fun i s l hs hl => (h3 i s l hs hl).mono hy⟩
theorem zLh {X : Nat -> Prop} {w : World} {s : Value} {l : List Pt} (h : RdLF X w s l) : ∃ ao cap, s = .slice ao l.length cap := by
 obtain ⟨css, h⟩ := h
 obtain ⟨ao, cap, rfl⟩ := zAl h.now.1
 exact ⟨ao, cap, by rw [zI1 h.now.2]⟩
theorem RdNF.at {X : Nat -> Prop} {w : World} {ao : Option Addr} {n cap : Nat} {a : List (List Pt)} (h : RdNF X w (.slice ao n cap) a) {k : Nat} {l : List Pt} (hk : a[k]? = some l) :
  ∃ b off sa sc, ao = some ⟨b, off, none⟩ ∧ w.cell? ⟨b, off + k, none⟩ = some (.slice sa l.length sc) ∧ RdLF X w (.slice sa l.length sc) l := by
 obtain ⟨sls, h1, h2, h3⟩ := h
 obtain ⟨ao', cap', hv, _, hc⟩ := h1.now
 cases hv
 have hlt : k < sls.length := by rw [h2]; exact (List.getElem?_eq_some_iff.1 hk).1
 obtain ⟨b, off, rfl, hcell⟩ := hc (by omega)
 have h4 := h3 k _ l (Qa hlt) hk
 obtain ⟨sa, sc, h5⟩ := zLh h4
 refine ⟨b, off, sa, sc, rfl, ?_, h5 ▸ h4⟩
 rw [hcell k hlt, List.getD_eq_getElem?_getD, Qa hlt, <- h5]
 rfl
theorem RdTs.append {w : World} {l' : List Pt} {css' : List (List Value)} (k : RdTs w l' css') : ∀ {l : List Pt} {css : List (List Value)}, RdTs w l css -> RdTs w (l ++ l') (css ++ css')
 | [], [], _ => k
 | p :: r, c :: t, h => by
  unfold RdTs at h
  show RdTs w (p :: (r ++ l')) (c :: (t ++ css'))
  unfold RdTs
  exact ⟨h.1, RdTs.append k h.2⟩
 | [], _ :: _, h => by unfold RdTs at h; exact h.elim
 | _ :: _, [], h => by unfold RdTs at h; exact h.elim
def OwnN (X : Nat -> Prop) (B : Nat) (w : World) (v : Value) (o : List (List Pt)) : Prop :=
 ∃ sls, w.ownsRow B 63 1 v o.length sls ∧ sls.length = o.length ∧ ∀ (i : Nat) (s : Value) (l : List Pt), sls[i]? = some s -> o[i]? = some l -> RdLF (fun b => (X b ∧ b < B) ∨ v.ownBlock = some b) w s l
theorem OwnN.rd {X : Nat -> Prop} {B : Nat} {w : World} {v : Value} {o : List (List Pt)} (h : OwnN X B w v o) : RdNF (fun b => X b ∧ b < B) w v o := by
 obtain ⟨sls, h1, h2, h3⟩ := h
 refine ⟨sls, fun w' ha => ?_, h2, fun i s l hs hl => (h3 i s l hs hl).mono fun b _ hb => .inl hb⟩
 refine Rd.of_owns (zAj h1 ha fun b hb hx => ?_)
 have := (h1.lt b hb).1
 omega
end Go.Proofs.Ytnfjdoeemnhkbaa
