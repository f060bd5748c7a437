import Derived.WalkKit
import Derived.WalkSmall
set_option linter.unusedVariables false
namespace Go.Proofs.YtmpgnjhgegbdkaaGreat
open Go.RowKit
open _root_.List renaming getD_eq_getElem?_getD -> Qa, length_drop -> Qc
open _root_.Nat renaming le_refl -> Qb
theorem zAc {a b c : World} {row : Option Nat} (h : a.grownBy b row) (k : b.grownBy c row) : a.grownBy c row :=
 ⟨k.os.trans h.os, k.tape.trans h.tape, k.output.trans h.output, Nat.le_trans h.size k.size, fun i hi hr => (k.block i (Nat.lt_of_lt_of_le hi h.size) hr).trans (h.block i hi hr)⟩
theorem zA2 (w : World) (row : Option Nat) (n : Nat) : w.grownBy (w.drewN n) row := ⟨rfl, rfl, rfl, Qb _, fun _ _ _ => rfl⟩
def u8v (n : Nat) : Value := .int .u8 n
def u64v (n : Nat) : Value := .int .u64 n
def boolv (b : Bool) : Value := .bool b
theorem zAi (w : World) (a : Addr) (u : Value) : w.grownBy (w.setCell a u) (some a.block) :=
 ⟨rfl, rfl, rfl, by simp [World.setCell], fun k _ hk => heap_setCell_other w a k u (fun e => hk (by simp [e]))⟩
def Rd (w : World) (v : Value) (xs : List Value) : Prop :=
 ∃ ao cap, v = .slice ao xs.length cap ∧ ((ao = none -> cap = 0) ∧ xs.length <= cap) ∧ (0 < xs.length -> ∃ b off, ao = some ⟨b, off, none⟩ ∧ ∀ i, i < xs.length -> w.cell? ⟨b, off + i, none⟩ = some (xs.getD i undef))
theorem Rd.kept {w w' : World} {v : Value} {xs : List Value} (h : Rd w v xs) (hb : Below w.heap.size w w') : Rd w' v xs := by
 obtain ⟨ao, cap, hv, hn, hc⟩ := h
 refine ⟨ao, cap, hv, hn, fun hp => ?_⟩
 obtain ⟨b, off, ha, hcell⟩ := hc hp
 refine ⟨b, off, ha, fun i hi => ?_⟩
 have h1 := hcell i hi
 have hlt : b < w.heap.size := by
  exact World.block_lt_of_cell? _ _ h1
 rw [hb.cell (p := ⟨b, off + i, none⟩) hlt]
 exact h1
theorem Rd.nil (w : World) : Rd w (.slice none 0 0) [] := ⟨none, 0, rfl, ⟨fun _ => rfl, by simp⟩, fun h => absurd h (by simp)⟩
theorem Rd.of_owns {w : World} {base : Nat} {e : TypeId} {v : Value} {n : Nat} {xs : List Value} (h : w.ownsRow base e 1 v n xs) : Rd w v xs := by
 have hl : xs.length = n := by simpa using h.1
 rcases h.2 with ⟨rfl, rfl⟩ | ⟨g, cap, cur, rfl, hbg, hh, r⟩
 ·have : xs = [] := List.length_eq_zero_iff.1 hl
  subst this
  exact Rd.nil _
 ·refine ⟨some ⟨g, 0, none⟩, cap, by rw [hl], ⟨(fun h => by cases h), by rw [hl]; exact r.1⟩, fun _ => ⟨g, 0, rfl, fun i hi => ?_⟩⟩
  have := h.cellAt i (by omega)
  rw [Nat.zero_add, this, Qa, List.getElem?_eq_getElem hi]; rfl
theorem zFt {w : World} {a : Addr} {n c : Nat} {xs : List Value} (h : Rd w (.slice (some a) n c) xs) : ∀ j u, xs[j]? = some u -> w.cell? (a.add j) = some u := by
 intro j u hj
 obtain ⟨ao, cap, hv, _, hc⟩ := h
 have hjl : j < xs.length := (List.getElem?_eq_some_iff.1 hj).1
 obtain ⟨b, off, ha, hcell⟩ := hc (by omega)
 simp only [Value.slice.injEq] at hv
 obtain ⟨rfl, _, _⟩ := hv
 cases ha
 have e : (⟨b, off, none⟩ : Addr).add j = ⟨b, off + j, none⟩ := by simp [Addr.add]
 rw [e, hcell j hjl, Qa, hj]; rfl
theorem zCe {w : World} {b off len cap n : Nat} {xs : List Value} (h : Rd w (.slice (some ⟨b, off, none⟩) len cap) xs) (hn : n <= len) :
  Rd w (.slice (some ⟨b, off + n, none⟩) (len - n) (cap - n)) (xs.drop n) := by
 obtain ⟨ao, cap', hv, hcap, hc⟩ := h
 simp only [Value.slice.injEq] at hv
 obtain ⟨rfl, hl, rfl⟩ := hv
 refine ⟨some ⟨b, off + n, none⟩, cap - n, by rw [Qc, hl], ⟨(fun h => by cases h), by rw [Qc]; omega⟩, fun hp => ⟨b, off + n, rfl, fun i hi => ?_⟩⟩
 rw [Qc] at hp hi
 obtain ⟨b', off', ha, hcell⟩ := hc (by omega)
 cases ha
 have := hcell (n + i) (by omega)
 rw [Qa, List.getElem?_drop, Nat.add_assoc, this, Qa]
theorem zHk {w : World} {ao : Option Addr} {len cap m : Nat} {xs : List Value} (h : Rd w (.slice ao len cap) xs) (hm : m <= len) : Rd w (.slice ao m cap) (xs.take m) := by
 obtain ⟨ao', cap', hv, hcap, hc⟩ := h
 simp only [Value.slice.injEq] at hv
 obtain ⟨rfl, hl, rfl⟩ := hv
 have hl2 : (xs.take m).length = m := by rw [List.length_take]; omega
 refine ⟨ao, cap, by rw [hl2], ⟨hcap.1, by rw [hl2]; have := hcap.2; omega⟩, fun hp => ?_⟩
 rw [hl2] at hp ⊢
 obtain ⟨b, off, ha, hcell⟩ := hc (by omega)
 refine ⟨b, off, ha, fun i hi => ?_⟩
 rw [hcell i (by omega), Qa, Qa, List.getElem?_take, if_pos hi]
theorem zBx (w : World) (a : Addr) (cap : Nat) : Rd w (.slice (some a) 0 cap) [] := ⟨some a, cap, rfl, ⟨(fun h => by cases h), by simp⟩, fun h => absurd h (by simp)⟩
theorem zB2 {w : World} {B : Nat} {E : TypeId} {size : Nat} {v : Value} {n : Nat} {xs : List Value} (h : w.ownsRow B E size v n xs) : ∃ ao cap, v = .slice ao n cap := by
 rcases h.2 with ⟨rfl, rfl⟩ | ⟨g, cap, cur, rfl, _⟩
 ·exact ⟨none, 0, rfl⟩
 ·exact ⟨_, cap, rfl⟩
theorem zAq (bs : List Nat) : ∀ u ∈ bs.map u8v, u.oneCell' = true := by
 intro u hu; obtain ⟨x, _, rfl⟩ := List.mem_map.1 hu; rfl
def RetOwn (B : Nat) (E : TypeId) (xs : List Value) (w : World) (e : Ending) (w' : World) : Prop :=
 ∃ ao cap, e = .returned (.slice ao xs.length cap) ∧ w'.ownsRow B E 1 (.slice ao xs.length cap) xs.length xs ∧ Below w.heap.size w w'
def RetOwn2 (B : Nat) (E : TypeId) (xs : List Value) (b : Bool) (w : World) (e : Ending) (w' : World) : Prop :=
 ∃ ao cap, e = .returned (.tuple #[.slice ao xs.length cap, .bool b]) ∧ w'.ownsRow B E 1 (.slice ao xs.length cap) xs.length xs ∧ Below w.heap.size w w'
theorem zKp (w : World) (B : Nat) (E : TypeId) : w.ownsRow B E 1 (.slice none 0 0) 0 [] := ⟨rfl, .inl ⟨rfl, rfl⟩⟩
theorem zB8 (w : World) (B : Nat) (k : Nat) : Below B w (w.drewN k) := ⟨rfl, rfl, rfl, Qb _, fun _ _ => rfl⟩
theorem zAm (B : Nat) (w : World) : Below B w w.drew := ⟨rfl, rfl, rfl, Qb _, fun _ _ => rfl⟩
theorem zAd (w : World) (o : Obj) : Below w.heap.size w (w.alloc o) := (Below.refl _ _).alloc (Qb _) _
theorem zAa {a b c : World} (h : Below a.heap.size a b) (k : Below b.heap.size b c) : Below a.heap.size a c := h.trans (k.mono h.size)
theorem below_draws {a b : World} (h : Below a.heap.size a b) (k : Nat) : Below a.heap.size a (b.drewN k) := h.trans (zB8 _ _ k)
theorem zAl {a b : World} (h : Below a.heap.size a b) (o : Obj) : Below a.heap.size a (b.alloc o) := h.alloc h.size o
theorem zEb {α : Type} {f : α -> Value} {w : World} {B : Nat} {E : TypeId} {ao : Option Addr} {cap : Nat} {xs : List α} (h : w.ownsRow B E 1 (.slice ao (xs.map f).length cap) (xs.map f).length (xs.map f)) :
  Rd w (.slice ao xs.length cap) (xs.map f) := by
 have := Rd.of_owns h
 rwa [List.length_map] at this
end Go.Proofs.YtmpgnjhgegbdkaaGreat
