import Derived.WalkKit
import Derived.WalkSmall
set_option linter.unusedVariables false
namespace Go.Proofs.Ytnfjdoeemnhkbaa
open Go.RowKit
open _root_.Nat renaming le_refl -> Qa
open _root_.List renaming getD_eq_getElem?_getD -> Qb, getElem?_eq_getElem -> Qc, length_take -> Qd
def u8v (n : Nat) : Value := .int .u8 n
theorem zFn (w : World) (a : Addr) (u : Value) : w.grownBy (w.setCell a u) (some a.block) :=
 ⟨rfl, rfl, rfl, by simp [World.setCell], fun k _ hk => heap_setCell_other w a k u (fun e => hk (by simp [e]))⟩
def Rd (w : World) (v : Value) (xs : List Value) : Prop :=
 ∃ ao cap, v = .slice ao xs.length cap ∧ ((ao = none -> cap = 0) ∧ xs.length <= cap) ∧ (0 < xs.length -> ∃ b off, ao = some ⟨b, off, none⟩ ∧ ∀ i, i < xs.length -> w.cell? ⟨b, off + i, none⟩ = some (xs.getD i undef))
theorem Rd.kept {w w' : World} {v : Value} {xs : List Value} (h : Rd w v xs) (hb : Below w.heap.size w w') : Rd w' v xs := by
 obtain ⟨ao, cap, hv, hn, hc⟩ := h
 refine ⟨ao, cap, hv, hn, fun hp => ?_⟩
 obtain ⟨b, off, ha, hcell⟩ := hc hp
 refine ⟨b, off, ha, fun i hi => ?_⟩
 have h1 := hcell i hi
 have hlt : b < w.heap.size := by
  exact World.block_lt_of_cell? _ _ h1
 rw [hb.cell (p := ⟨b, off + i, none⟩) hlt]
 exact h1
theorem Rd.nil (w : World) : Rd w (.slice none 0 0) [] := ⟨none, 0, rfl, ⟨fun _ => rfl, by simp⟩, fun h => absurd h (by simp)⟩
theorem Rd.of_owns {w : World} {base : Nat} {e : TypeId} {v : Value} {n : Nat} {xs : List Value} (h : w.ownsRow base e 1 v n xs) : Rd w v xs := by
 have hl : xs.length = n := by simpa using h.1
 rcases h.2 with ⟨rfl, rfl⟩ | ⟨g, cap, cur, rfl, hbg, hh, r⟩
 ·have : xs = [] := List.length_eq_zero_iff.1 hl
  subst this
  exact Rd.nil _
 ·refine ⟨some ⟨g, 0, none⟩, cap, by rw [hl], ⟨(fun h => by cases h), by rw [hl]; exact r.1⟩, fun _ => ⟨g, 0, rfl, fun i hi => ?_⟩⟩
  have := h.cellAt i (by omega)
  rw [Nat.zero_add, this, Qb, Qc hi]; rfl
theorem zOp {w : World} {a : Addr} {n c : Nat} {xs : List Value} (h : Rd w (.slice (some a) n c) xs) : ∀ j u, xs[j]? = some u -> w.cell? (a.add j) = some u := by
 intro j u hj
 obtain ⟨ao, cap, hv, _, hc⟩ := h
 have hjl : j < xs.length := (List.getElem?_eq_some_iff.1 hj).1
 obtain ⟨b, off, ha, hcell⟩ := hc (by omega)
 simp only [Value.slice.injEq] at hv
 obtain ⟨rfl, _, _⟩ := hv
 cases ha
 have e : (⟨b, off, none⟩ : Addr).add j = ⟨b, off + j, none⟩ := by simp [Addr.add]
 rw [e, hcell j hjl, Qb, hj]; rfl
theorem zBz {w : World} {B : Nat} {E : TypeId} {size : Nat} {v : Value} {n : Nat} {xs : List Value} (h : w.ownsRow B E size v n xs) : ∃ ao cap, v = .slice ao n cap := by
 rcases h.2 with ⟨rfl, rfl⟩ | ⟨g, cap, cur, rfl, _⟩
 ·exact ⟨none, 0, rfl⟩
 ·exact ⟨_, cap, rfl⟩
theorem zOq (bs : List Nat) : ∀ u ∈ bs.map u8v, u.oneCell' = true := by
 intro u hu; obtain ⟨x, _, rfl⟩ := List.mem_map.1 hu; rfl
theorem zK1 (w : World) (B : Nat) (k : Nat) : Below B w (w.drewN k) := ⟨rfl, rfl, rfl, Qa _, fun _ _ => rfl⟩
theorem zAb (B : Nat) (w : World) : Below B w w.drew := ⟨rfl, rfl, rfl, Qa _, fun _ _ => rfl⟩
theorem zL5 (w : World) (cs : Array Value) (E : TypeId) (n : Nat) (xs : List Value) (hs : cs.toList = xs) (hn : n = xs.length) (hm : n <= maxLen) : Rd (w.alloc (.cells cs E)) (.slice (some ⟨w.heap.size, 0, none⟩) n n) xs := by
 subst hs
 exact Rd.of_owns (World.ownsRow_lit (base := w.heap.size) (size := 1) w cs n (Qa _) hm (by rw [hn]; simp))
theorem zAi (w : World) (o : Obj) : Below w.heap.size w (w.alloc o) := (Below.refl _ _).alloc (Qa _) _
theorem zAa {a b c : World} (h : Below a.heap.size a b) (k : Below b.heap.size b c) : Below a.heap.size a c := h.trans (k.mono h.size)
theorem below_draws {a b : World} (h : Below a.heap.size a b) (k : Nat) : Below a.heap.size a (b.drewN k) := h.trans (zK1 _ _ k)
theorem zAe {a b : World} (h : Below a.heap.size a b) (o : Obj) : Below a.heap.size a (b.alloc o) := h.alloc h.size o
def IsRow (k : IntKind) (w : World) (a : Option Addr) (len cap : Nat) (zs : List Int) : Prop :=
 (a = none ∧ len = 0 ∧ cap = 0 ∧ zs = []) ∨
 ∃ x, a = some x ∧ len <= cap ∧ cap <= maxLen ∧ zs.length = cap ∧ (∀ i, i < zs.length -> w.cell? (x.add i) = some (.int k (zs.getD i 0))) ∧ ∀ n ∈ zs, (Lit.int k n).wf = true
theorem zE2 {k : IntKind} {w : World} {a : Option Addr} {len cap : Nat} {zs : List Int} (h : IsRow k w a len cap zs) :
  ∃ xs : List Int, xs.length = len ∧ Rd w (.slice a len cap) (xs.map (Value.int k)) ∧ ∀ n ∈ xs, (Lit.int k n).wf = true := by
 rcases h with ⟨rfl, rfl, rfl, rfl⟩ | ⟨x, rfl, hl, hm, hz, hc, hw⟩
 ·exact ⟨[], rfl, Rd.nil _, fun n hn => by cases hn⟩
 ·refine ⟨zs.take len, by rw [Qd]; omega, ?_, fun n hn => hw n (List.mem_of_mem_take hn)⟩
  have hl2 : ((zs.take len).map (Value.int k)).length = len := by rw [List.length_map, Qd]; omega
  refine ⟨some x, cap, by rw [hl2], ⟨(fun h => by cases h), by rw [hl2]; exact hl⟩, fun hp => ?_⟩
  rw [hl2] at hp ⊢
  obtain ⟨b, off, spot⟩ := x
  have h0 := hc 0 (by omega)
  have hspot : spot = none := by simpa [Addr.add] using World.cell?_spot h0
  subst hspot
  refine ⟨b, off, rfl, fun i hi => ?_⟩
  have h1 := hc i (by omega)
  have e : (⟨b, off, none⟩ : Addr).add i = ⟨b, off + i, none⟩ := by simp [Addr.add]
  rw [e] at h1
  rw [h1]
  simp only [Qb, List.getElem?_map, List.getElem?_take, if_pos hi, Qc (show i < zs.length by omega)]
  rfl
end Go.Proofs.Ytnfjdoeemnhkbaa
