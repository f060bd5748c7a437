/-
  What hangs on no block of a set: it is so in every world that is as this one was but for these blocks.
-/
import Derived.Test.YteloepccjoikdaaLseven
namespace Go.Proofs.Yteloepccjoikdaa
set_option linter.unusedVariables false
open Go.RowKit

/-- w' is w with blocks more, and writes to blocks of X. -/
structure Agree (X : Nat → Prop) (w w' : World) : Prop where
  os : w'.os = w.os
  tape : w'.tape = w.tape
  output : w'.output = w.output
  size : w.heap.size ≤ w'.heap.size
  block : ∀ i, i < w.heap.size → ¬ X i → w'.heap[i]? = w.heap[i]?

theorem Agree.refl (X : Nat → Prop) (w : World) : Agree X w w := ⟨rfl, rfl, rfl, Nat.le_refl _, fun _ _ _ => rfl⟩
theorem Agree.trans {X : Nat → Prop} {a b c : World} (h : Agree X a b) (k : Agree X b c) : Agree X a c :=
  ⟨k.os.trans h.os, k.tape.trans h.tape, k.output.trans h.output, Nat.le_trans h.size k.size, fun i hi hx => (k.block i (Nat.lt_of_lt_of_le hi h.size) hx).trans (h.block i hi hx)⟩
theorem Agree.mono {X Y : Nat → Prop} {a b : World} (h : Agree X a b) (hx : ∀ i, i < a.heap.size → X i → Y i) : Agree Y a b :=
  ⟨h.os, h.tape, h.output, h.size, fun i hi hy => h.block i hi fun e => hy (hx i hi e)⟩
theorem agree_grown {w w' : World} {r : Option Nat} (h : w.grownBy w' r) : Agree (fun b => r = some b) w w' :=
  ⟨h.os, h.tape, h.output, h.size, fun i hi hx => h.block i hi fun e => hx e.symm⟩
theorem agree_below {w w' : World} {B : Nat} (h : Below B w w') (hs : w.heap.size ≤ w'.heap.size) : Agree (fun b => B ≤ b) w w' :=
  ⟨h.os, h.tape, h.output, hs, fun i hi hx => h.block i (by omega)⟩
theorem agree_alloc (X : Nat → Prop) (w : World) (o : Obj) : Agree X w (w.alloc o) :=
  ⟨rfl, rfl, rfl, by simp, fun i hi _ => heap_alloc_old w o hi⟩
theorem agree_drew (X : Nat → Prop) (w : World) (n : Nat) : Agree X w (w.drewN n) := ⟨rfl, rfl, rfl, Nat.le_refl _, fun _ _ _ => rfl⟩
theorem agree_drw (X : Nat → Prop) (w : World) : Agree X w w.drew := ⟨rfl, rfl, rfl, Nat.le_refl _, fun _ _ _ => rfl⟩
theorem agree_set (X : Nat → Prop) (w : World) (a : Addr) (u : Value) (h : X a.block) : Agree X w (w.setCell a u) :=
  ⟨rfl, rfl, rfl, by simp [World.setCell], fun i hi hx => heap_setCell_other w a i u (fun e => hx (e ▸ h))⟩
theorem Agree.alloc {X : Nat → Prop} {a b : World} (h : Agree X a b) (o : Obj) : Agree X a (b.alloc o) := h.trans (agree_alloc X b o)
theorem Agree.drew {X : Nat → Prop} {a b : World} (h : Agree X a b) : Agree X a b.drew := h.trans (agree_drw X b)
theorem Agree.set {X : Nat → Prop} {a b : World} (h : Agree X a b) (p : Addr) (u : Value) (hx : X p.block ∨ a.heap.size ≤ p.block) : Agree X a (b.setCell p u) :=
  ⟨h.os, h.tape, h.output, Nat.le_trans h.size (by simp [World.setCell]), fun i hi hn => (heap_setCell_other b p i u (fun e => hx.elim (fun h => hn (e ▸ h)) fun h => by omega)).trans (h.block i hi hn)⟩
theorem Agree.below {X : Nat → Prop} {a b : World} {B : Nat} (h : Agree X a b) (hx : ∀ i, i < B → ¬ X i) (hB : B ≤ a.heap.size) : Below B a b :=
  ⟨h.os, h.tape, h.output, h.size, fun i hi => h.block i (by omega) (hx i hi)⟩
theorem Agree.grown {w w' : World} {r : Option Nat} (h : Agree (fun b => r = some b) w w') : w.grownBy w' r :=
  ⟨h.os, h.tape, h.output, h.size, fun i hi hx => h.block i hi fun e => hx e.symm⟩
/-- Behind it something more. -/
theorem Agree.then {X Y : Nat → Prop} {a b c : World} (h : Agree X a b) (k : Agree Y b c) (hy : ∀ i, i < a.heap.size → Y i → X i) : Agree X a c :=
  ⟨k.os.trans h.os, k.tape.trans h.tape, k.output.trans h.output, Nat.le_trans h.size k.size, fun i hi hx => (k.block i (Nat.lt_of_lt_of_le hi h.size) fun e => hx (hy i hi e)).trans (h.block i hi hx)⟩
theorem Agree.thenGrown {X : Nat → Prop} {a b c : World} {r : Option Nat} (h : Agree X a b) (k : b.grownBy c r) (hy : ∀ i, i < a.heap.size → r = some i → X i) : Agree X a c := h.then (agree_grown k) hy
theorem Agree.thenBelow {X : Nat → Prop} {a b c : World} (h : Agree X a b) (k : Below b.heap.size b c) : Agree X a c :=
  ⟨k.os.trans h.os, k.tape.trans h.tape, k.output.trans h.output, Nat.le_trans h.size k.size, fun i hi hx => (k.block i (Nat.lt_of_lt_of_le hi h.size)).trans (h.block i hi hx)⟩

def Free (X : Nat → Prop) (w : World) (P : World → Prop) : Prop := ∀ w', Agree X w w' → P w'
theorem Free.now {X : Nat → Prop} {w : World} {P : World → Prop} (h : Free X w P) : P w := h w (Agree.refl X w)
theorem Free.to {X Y Z : Nat → Prop} {w w' : World} {P : World → Prop} (h : Free X w P) (ha : Agree Z w w') (hz : ∀ i, i < w.heap.size → Z i → X i) (hy : ∀ i, i < w.heap.size → Y i → X i) : Free Y w' P :=
  fun w2 h2 => h w2 ((ha.mono hz).then h2 hy)
theorem Free.mono {X Y : Nat → Prop} {w : World} {P : World → Prop} (h : Free X w P) (hy : ∀ i, i < w.heap.size → Y i → X i) : Free Y w P := fun w2 h2 => h w2 (h2.mono hy)
theorem Free.imp {X : Nat → Prop} {w : World} {P Q : World → Prop} (h : Free X w P) (hq : ∀ w', P w' → Q w') : Free X w Q := fun w2 h2 => hq _ (h w2 h2)
theorem Free.and {X : Nat → Prop} {w : World} {P Q : World → Prop} (h : Free X w P) (k : Free X w Q) : Free X w fun w' => P w' ∧ Q w' := fun w2 h2 => ⟨h w2 h2, k w2 h2⟩
/-- What is kept where nothing old turns. -/
theorem free_kept {w : World} {P : World → Prop} (h : ∀ w', Below w.heap.size w w' → P w') : Free (fun b => w.heap.size ≤ b) w P := fun w' k =>
  h w' ⟨k.os, k.tape, k.output, k.size, fun i hi => k.block i hi (by omega)⟩
/-- .. where nothing below a block turns. -/
theorem free_far {w w1 : World} {P : World → Prop} (hb : Below w.heap.size w w1) (h : ∀ w', Below w.heap.size w w' → P w') : Free (fun b => w.heap.size ≤ b) w1 P := fun w' k =>
  h w' ⟨k.os.trans hb.os, k.tape.trans hb.tape, k.output.trans hb.output, Nat.le_trans hb.size k.size, fun i hi => (k.block i (Nat.lt_of_lt_of_le hi hb.size) (by omega)).trans (hb.block i hi)⟩
/-- What lies from K on. -/
theorem agree_above {X : Nat → Prop} {w w' : World} (h : Agree X w w') {K : Nat} (hx : ∀ i, X i → i < K) : Above K w w' := fun b h1 h2 => h.block b h2 fun e => by have := hx b e; omega

/-- A row of one's own stays, where nothing of it is turned. -/
theorem ownsRow_agree {X : Nat → Prop} {w w' : World} {B : Nat} {E : TypeId} {sz : Nat} {v : Value} {n : Nat} {xs : List Value} (h : w.ownsRow B E sz v n xs) (ha : Agree X w w') (hx : ∀ i, v.ownBlock = some i → ¬ X i) : w'.ownsRow B E sz v n xs := by
  rcases h.2 with ⟨rfl, rfl⟩ | ⟨g, cap, cur, rfl, hbg, hh, r⟩
  · exact ⟨h.1, .inl ⟨rfl, rfl⟩⟩
  · refine ⟨h.1, .inr ⟨g, cap, cur, rfl, hbg, ?_, r⟩⟩
    rw [ha.block g (Array.getElem?_eq_some_iff.1 hh).1 (hx g rfl)]
    exact hh

end Go.Proofs.Yteloepccjoikdaa
