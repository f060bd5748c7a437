import Derived.Test.YtnfjdoeemnhkbaaLsix
import Derived.Deep.RegionHeld3
import Derived.BigRegion
import Derived.Deep.DeepCutAuto
set_option linter.unusedVariables false
set_option linter.unusedSimpArgs false
namespace Go.Proofs.Ytnfjdoeemnhkbaa
open Go.RowKit
open _root_.List renaming length_map -> Qa, getD_eq_getElem?_getD -> Qb, getElem?_eq_getElem -> Qc, getElem?_map -> Qe, length_cons -> Qg
open _root_.Nat renaming le_trans -> Qd
open _root_.Array renaming getElem?_eq_some_iff -> Qf
open Go renaming heap_setCell_same -> Qh
inductive Pt where
 | mk (k c o : Int) (v : Vc) (l : List Pt)
def cellsP (k c o : Int) (v : Vc) (s ls : Value) : List Value := [.int .i64 k, .int .i64 c, .int .i64 o, .bool v.u, .int .i64 v.k, .int .i64 v.n, s, ls]
mutual
def RdT1 (w : World) : Pt -> List Value -> Prop
 | .mk k c o v l, cs => ∃ s ls css, cs = cellsP k c o v s ls ∧ OkV w (v, s) ∧ RdS w 8 ls css ∧ RdTs w l css
def RdTs (w : World) : List Pt -> List (List Value) -> Prop
 | [], [] => True
 | q :: r, cs :: t => RdT1 w q cs ∧ RdTs w r t
 | [], _ :: _ => False
 | _ :: _, [] => False
end
mutual
theorem RdT1.kept {w w' : World} (hb : Below w.heap.size w w') : ∀ (p : Pt) {cs : List Value}, RdT1 w p cs -> RdT1 w' p cs
 | .mk k c o v l, cs, h => by
  unfold RdT1 at h ⊢
  obtain ⟨s, ls, css, h1, h2, h3, h4⟩ := h
  exact ⟨s, ls, css, h1, h2.kept hb, h3.kept hb, RdTs.kept hb l h4⟩
theorem RdTs.kept {w w' : World} (hb : Below w.heap.size w w') : ∀ (l : List Pt) {css : List (List Value)}, RdTs w l css -> RdTs w' l css
 | [], [], _ => by unfold RdTs; trivial
 | q :: r, cs :: t, h => by
  unfold RdTs at h ⊢
  exact ⟨RdT1.kept hb q h.1, RdTs.kept hb r h.2⟩
 | [], _ :: _, h => by unfold RdTs at h; exact h.elim
 | _ :: _, [], h => by unfold RdTs at h; exact h.elim
end
theorem zI1 {w : World} : ∀ {l : List Pt} {css : List (List Value)}, RdTs w l css -> css.length = l.length
 | [], [], _ => rfl
 | q :: r, cs :: t, h => by unfold RdTs at h; rw [Qg, Qg, zI1 h.2]
 | [], _ :: _, h => by unfold RdTs at h; exact h.elim
 | _ :: _, [], h => by unfold RdTs at h; exact h.elim
def Above (K : Nat) (w w' : World) : Prop := ∀ b, K <= b -> b < w.heap.size -> w'.heap[b]? = w.heap[b]?
theorem Above.refl (K : Nat) (w : World) : Above K w w := fun _ _ _ => rfl
theorem Above.trans {K : Nat} {a b c : World} (h : Above K a b) (hs : a.heap.size <= b.heap.size) (k : Above K b c) : Above K a c := fun x h1 h2 => (k x h1 (Nat.lt_of_lt_of_le h2 hs)).trans (h x h1 h2)
theorem Above.mono {K K' : Nat} {w w' : World} (h : Above K w w') (hk : K <= K') : Above K' w w' := fun x h1 h2 => h x (Qd hk h1) h2
theorem zAc {K : Nat} {w w' : World} (h : Below w.heap.size w w') : Above K w w' := fun x _ h2 => h.block x h2
theorem zE4 {K b i : Nat} {w w' : World} {u : Value} (h : Above K w w') (hb : K <= b) (hc : w.cell? ⟨b, i, none⟩ = some u) : w'.cell? ⟨b, i, none⟩ = some u := by
 have hlt := World.block_lt_of_cell? w _ hc
 have := h b hb hlt
 rw [<- hc]
 simp only [World.cell?, this]
def RdB (K : Nat) (w : World) (s : Value) (bs : List Nat) : Prop := ∃ ao cap, s = .slice ao bs.length cap ∧ ((ao = none -> cap = 0) ∧ bs.length <= cap) ∧ (0 < bs.length -> ∃ b off, ao = some ⟨b, off, none⟩ ∧ K <= b ∧ ∀ i, i < bs.length -> w.cell? ⟨b, off + i, none⟩ = some (u8v (bs.getD i 0)))
theorem RdB.rd {K : Nat} {w w' : World} {s : Value} {bs : List Nat} (h : RdB K w s bs) (ha : Above K w w') : Rd w' s (bs.map u8v) := by
 obtain ⟨ao, cap, hv, hn, hc⟩ := h
 refine ⟨ao, cap, by rw [Qa]; exact hv, by rw [Qa]; exact hn, fun hp => ?_⟩
 rw [Qa] at hp
 obtain ⟨b, off, h1, h2, h3⟩ := hc hp
 refine ⟨b, off, h1, fun i hi => ?_⟩
 rw [Qa] at hi
 rw [zE4 ha h2 (h3 i hi), Qb, Qb, Qe, Qc hi]
 rfl
theorem RdB.above {K K0 : Nat} {w w' : World} {s : Value} {bs : List Nat} (h : RdB K w s bs) (ha : Above K w w') (hk : K0 <= K) : RdB K0 w' s bs := by
 obtain ⟨ao, cap, hv, hn, hc⟩ := h
 refine ⟨ao, cap, hv, hn, fun hp => ?_⟩
 obtain ⟨b, off, h1, h2, h3⟩ := hc hp
 exact ⟨b, off, h1, Qd hk h2, fun i hi => zE4 ha h2 (h3 i hi)⟩
theorem zA0 {K : Nat} {w w1 : World} (h : Above K w w1) (a : Addr) (v : Value) (ha : a.block < K) : Above K w (w1.setCell a v) := fun x h1 h2 => by
 rw [heap_setCell_other w1 a x v (by omega)]
 exact h x h1 h2
theorem zPn : (Try.prog.info? 5).map (fun i => (i.zero, i.size, i.bytes)) = some (some (.int .u8 0), 1, 1) := by kernel_rfl
theorem zNk {w : World} {ao : Option Addr} {len cap : Nat} {bs : List Nat} (h : Rd w (.slice ao len cap) (bs.map u8v)) :
  len = bs.length ∧ (0 < len -> ∃ b off, ao = some ⟨b, off, none⟩ ∧ ∀ i, i < len -> w.cell? ⟨b, off + i, none⟩ = some (.int .u8 (bs.getD i 0 : Nat))) := by
 obtain ⟨ao', cap', hv, _, hc⟩ := h
 simp only [Qa, Value.slice.injEq] at hv hc
 obtain ⟨rfl, hl, rfl⟩ := hv
 refine ⟨hl, fun hp => ?_⟩
 obtain ⟨b, off, ha, hcell⟩ := hc (by omega)
 refine ⟨b, off, ha, fun i hi => ?_⟩
 have := hcell i (by omega)
 rw [this, Qb, Qe, Qb, Qc (show i < bs.length by omega)]
 rfl
theorem zOu {w : World} {B : Nat} {E : TypeId} {v : Value} {n : Nat} {bs : List Nat} (h : w.ownsRow B E 1 v n (bs.map u8v)) : RdB B w v bs := by
 have hl : bs.length = n := by simpa using h.1
 rcases h.2 with ⟨rfl, rfl⟩ | ⟨g, cap, cur, rfl, hbg, hh, r⟩
 ·have : bs = [] := List.length_eq_zero_iff.1 hl
  subst this
  exact ⟨none, 0, rfl, ⟨fun _ => rfl, by simp⟩, fun h => absurd h (by simp)⟩
 ·refine ⟨some ⟨g, 0, none⟩, cap, by rw [hl], ⟨(fun h => by cases h), by rw [hl]; exact r.1⟩, fun _ => ⟨g, 0, rfl, hbg, fun i hi => ?_⟩⟩
  have := h.cellAt i (by omega)
  rw [Nat.zero_add, this, Qe, Qc hi, Qb, Qc hi]; rfl
theorem zK8 {w : World} {X : Nat} {a b c d a' b' c' d' : Value} {T : TypeId} (h : w.heap[X]? = some (.cells #[a, b, c, d] T (0, 0))) :
  ((((w.setCell ⟨X, 0, none⟩ a').setCell ⟨X, 1, none⟩ b').setCell ⟨X, 2, none⟩ c').setCell ⟨X, 3, none⟩ d').heap[X]? = some (.cells #[a', b', c', d'] T (0, 0)) := by
 have h0 := Qh w X 0 _ _ a' h
 have h1 := Qh (w.setCell ⟨X, 0, none⟩ a') X 1 _ _ b' h0
 have h2 := Qh _ X 2 _ _ c' h1
 have h3 := Qh _ X 3 _ _ d' h2
 rw [h3]
 simp
theorem zMd : (Try.prog.info? 36).map (·.size) = some 4 := by kernel_rfl
def RdSK (K : Nat) (w : World) (sz : Nat) (v : Value) (ls : List (List Value)) : Prop :=
 ∃ ao cap, v = .slice ao ls.length cap ∧ ((ao = none -> cap = 0) ∧ ls.length <= cap) ∧
  ∀ k t, ls[k]? = some t -> ∃ b off, ao = some ⟨b, off, none⟩ ∧ K <= b ∧ ∀ j u, t[j]? = some u -> w.cell? ⟨b, off + k * sz + j, none⟩ = some u
theorem RdSK.rd {K : Nat} {w : World} {sz : Nat} {v : Value} {ls : List (List Value)} (h : RdSK K w sz v ls) : RdS w sz v ls := by
 obtain ⟨ao, cap, hv, hn, hc⟩ := h
 refine ⟨ao, cap, hv, hn, fun k t ht => ?_⟩
 obtain ⟨b, off, h1, _, h3⟩ := hc k t ht
 exact ⟨b, off, h1, h3⟩
theorem RdSK.above {K K0 : Nat} {w w' : World} {sz : Nat} {v : Value} {ls : List (List Value)} (h : RdSK K w sz v ls) (ha : Above K w w') (hk : K0 <= K) : RdSK K0 w' sz v ls := by
 obtain ⟨ao, cap, hv, hn, hc⟩ := h
 refine ⟨ao, cap, hv, hn, fun k t ht => ?_⟩
 obtain ⟨b, off, h1, h2, h3⟩ := hc k t ht
 exact ⟨b, off, h1, Qd hk h2, fun j u hu => zE4 ha h2 (h3 j u hu)⟩
mutual
def RdA1 (K : Nat) (w : World) : Pt -> List Value -> Prop
 | .mk k c o v l, cs => ∃ s ls css, cs = cellsP k c o v s ls ∧ (RdB K w s v.b ∧ ∀ x ∈ v.b, x < 256) ∧ RdSK K w 8 ls css ∧ RdAs K w l css
def RdAs (K : Nat) (w : World) : List Pt -> List (List Value) -> Prop
 | [], [] => True
 | q :: r, cs :: t => RdA1 K w q cs ∧ RdAs K w r t
 | [], _ :: _ => False
 | _ :: _, [] => False
end
mutual
theorem RdA1.above {K K0 : Nat} {w w' : World} (ha : Above K w w') (hk : K0 <= K) : ∀ (p : Pt) {cs : List Value}, RdA1 K w p cs -> RdA1 K0 w' p cs
 | .mk k c o v l, cs, h => by
  unfold RdA1 at h ⊢
  obtain ⟨s, ls, css, h1, h2, h3, h4⟩ := h
  exact ⟨s, ls, css, h1, ⟨h2.1.above ha hk, h2.2⟩, h3.above ha hk, RdAs.above ha hk l h4⟩
theorem RdAs.above {K K0 : Nat} {w w' : World} (ha : Above K w w') (hk : K0 <= K) : ∀ (l : List Pt) {css : List (List Value)}, RdAs K w l css -> RdAs K0 w' l css
 | [], [], _ => by unfold RdAs; trivial
 | q :: r, cs :: t, h => by
  unfold RdAs at h ⊢
  exact ⟨RdA1.above ha hk q h.1, RdAs.above ha hk r h.2⟩
 | [], _ :: _, h => by unfold RdAs at h; exact h.elim
 | _ :: _, [], h => by unfold RdAs at h; exact h.elim
end
mutual
theorem RdA1.rd {K : Nat} {w : World} : ∀ (p : Pt) {cs : List Value}, RdA1 K w p cs -> RdT1 w p cs
 | .mk k c o v l, cs, h => by
  unfold RdA1 at h
  unfold RdT1
  obtain ⟨s, ls, css, h1, h2, h3, h4⟩ := h
  exact ⟨s, ls, css, h1, ⟨h2.1.rd (Above.refl _ _), h2.2⟩, h3.rd, RdAs.rd l h4⟩
theorem RdAs.rd {K : Nat} {w : World} : ∀ (l : List Pt) {css : List (List Value)}, RdAs K w l css -> RdTs w l css
 | [], [], _ => by unfold RdTs; trivial
 | q :: r, cs :: t, h => by
  unfold RdAs at h
  unfold RdTs
  exact ⟨RdA1.rd q h.1, RdAs.rd r h.2⟩
 | [], _ :: _, h => by unfold RdAs at h; exact h.elim
 | _ :: _, [], h => by unfold RdAs at h; exact h.elim
end
theorem zGy {w : World} {B : Nat} {E : TypeId} {sz : Nat} {v : Value} {n : Nat} {ls : List (List Value)} (h : w.ownsRow B E sz v n ls.flatten) (hn : n = ls.length) (hl : ∀ t ∈ ls, t.length = sz) : RdSK B w sz v ls := by
 have h1 := zCb h hn hl
 obtain ⟨ao, cap, hv, hnn, hc⟩ := h1
 refine ⟨ao, cap, hv, hnn, fun k t ht => ?_⟩
 obtain ⟨b, off, ha, hcell⟩ := hc k t ht
 refine ⟨b, off, ha, ?_, hcell⟩
 exact zAg h b (by rw [hv, ha]; rfl)
structure Cap (w : World) (db pb lb : Nat) (D : Int) : Prop where
 d : w.heap[db]? = some (.cells #[.int .i64 D] 3 (0, 0))
 p : w.heap[pb]? = some (.cells #[.pointer (some ⟨lb, 0, none⟩)] 138 (0, 0))
 nd : db ≠ lb
 np : pb ≠ lb
theorem Cap.grown {w w' : World} {db pb lb : Nat} {D : Int} (h : Cap w db pb lb D) (hg : w.grownBy w' (some lb)) : Cap w' db pb lb D :=
 ⟨(hg.block db (Qf.1 h.d).1 (fun e => by cases e; exact h.nd rfl)).trans h.d, (hg.block pb (Qf.1 h.p).1 (fun e => by cases e; exact h.np rfl)).trans h.p, h.nd, h.np⟩
theorem zKl {w : World} {B g : Nat} {E : TypeId} {size n cap : Nat} {xs : List Value} (h : w.ownsRow B E size (.slice (some ⟨g, 0, none⟩) n cap) n xs) : g < w.heap.size := by
 rcases h.2 with ⟨h, _⟩ | ⟨g', cap', cur, h, hbg, hh, _⟩
 ·cases h
 ·cases h
  exact (Qf.1 hh).1
end Go.Proofs.Ytnfjdoeemnhkbaa
