/-
  What hangs on no block of a set: it is so in every world that is as this one was but for these blocks.
  An append of any slice that reads as things of some cells each, be it nil or not, to a row of one's own: three forms of one law.
-/
import Derived.Test.YtnfjdoeemnhkbaaLseven
import Derived.Deep.AppendLies
import Derived.Laws.AppendOwnNone
namespace Go.Proofs.Ytnfjdoeemnhkbaa
set_option linter.unusedVariables false
open Go.RowKit

/-- w' is w with blocks more, and writes to blocks of X. -/
structure Agree (X : Nat → Prop) (w w' : World) : Prop where
  os : w'.os = w.os
  tape : w'.tape = w.tape
  output : w'.output = w.output
  size : w.heap.size ≤ w'.heap.size
  block : ∀ i, i < w.heap.size → ¬ X i → w'.heap[i]? = w.heap[i]?

theorem Agree.refl (X : Nat → Prop) (w : World) : Agree X w w := ⟨rfl, rfl, rfl, Nat.le_refl _, fun _ _ _ => rfl⟩
theorem Agree.trans {X : Nat → Prop} {a b c : World} (h : Agree X a b) (k : Agree X b c) : Agree X a c :=
  ⟨k.os.trans h.os, k.tape.trans h.tape, k.output.trans h.output, Nat.le_trans h.size k.size, fun i hi hx => (k.block i (Nat.lt_of_lt_of_le hi h.size) hx).trans (h.block i hi hx)⟩
theorem Agree.mono {X Y : Nat → Prop} {a b : World} (h : Agree X a b) (hx : ∀ i, i < a.heap.size → X i → Y i) : Agree Y a b :=
  ⟨h.os, h.tape, h.output, h.size, fun i hi hy => h.block i hi fun e => hy (hx i hi e)⟩
theorem agree_grown {w w' : World} {r : Option Nat} (h : w.grownBy w' r) : Agree (fun b => r = some b) w w' :=
  ⟨h.os, h.tape, h.output, h.size, fun i hi hx => h.block i hi fun e => hx e.symm⟩
theorem agree_below {w w' : World} {B : Nat} (h : Below B w w') (hs : w.heap.size ≤ w'.heap.size) : Agree (fun b => B ≤ b) w w' :=
  ⟨h.os, h.tape, h.output, hs, fun i hi hx => h.block i (by omega)⟩
theorem agree_alloc (X : Nat → Prop) (w : World) (o : Obj) : Agree X w (w.alloc o) :=
  ⟨rfl, rfl, rfl, by simp, fun i hi _ => heap_alloc_old w o hi⟩
theorem agree_drew (X : Nat → Prop) (w : World) (n : Nat) : Agree X w (w.drewN n) := ⟨rfl, rfl, rfl, Nat.le_refl _, fun _ _ _ => rfl⟩
theorem agree_drw (X : Nat → Prop) (w : World) : Agree X w w.drew := ⟨rfl, rfl, rfl, Nat.le_refl _, fun _ _ _ => rfl⟩
theorem agree_set (X : Nat → Prop) (w : World) (a : Addr) (u : Value) (h : X a.block) : Agree X w (w.setCell a u) :=
  ⟨rfl, rfl, rfl, by simp [World.setCell], fun i hi hx => heap_setCell_other w a i u (fun e => hx (e ▸ h))⟩
theorem Agree.alloc {X : Nat → Prop} {a b : World} (h : Agree X a b) (o : Obj) : Agree X a (b.alloc o) := h.trans (agree_alloc X b o)
theorem Agree.drew {X : Nat → Prop} {a b : World} (h : Agree X a b) : Agree X a b.drew := h.trans (agree_drw X b)
theorem Agree.set {X : Nat → Prop} {a b : World} (h : Agree X a b) (p : Addr) (u : Value) (hx : X p.block ∨ a.heap.size ≤ p.block) : Agree X a (b.setCell p u) :=
  ⟨h.os, h.tape, h.output, Nat.le_trans h.size (by simp [World.setCell]), fun i hi hn => (heap_setCell_other b p i u (fun e => hx.elim (fun h => hn (e ▸ h)) fun h => by omega)).trans (h.block i hi hn)⟩
theorem Agree.below {X : Nat → Prop} {a b : World} {B : Nat} (h : Agree X a b) (hx : ∀ i, i < B → ¬ X i) (hB : B ≤ a.heap.size) : Below B a b :=
  ⟨h.os, h.tape, h.output, h.size, fun i hi => h.block i (by omega) (hx i hi)⟩
theorem Agree.grown {w w' : World} {r : Option Nat} (h : Agree (fun b => r = some b) w w') : w.grownBy w' r :=
  ⟨h.os, h.tape, h.output, h.size, fun i hi hx => h.block i hi fun e => hx e.symm⟩
/-- Behind it something more. -/
theorem Agree.then {X Y : Nat → Prop} {a b c : World} (h : Agree X a b) (k : Agree Y b c) (hy : ∀ i, i < a.heap.size → Y i → X i) : Agree X a c :=
  ⟨k.os.trans h.os, k.tape.trans h.tape, k.output.trans h.output, Nat.le_trans h.size k.size, fun i hi hx => (k.block i (Nat.lt_of_lt_of_le hi h.size) fun e => hx (hy i hi e)).trans (h.block i hi hx)⟩
theorem Agree.thenGrown {X : Nat → Prop} {a b c : World} {r : Option Nat} (h : Agree X a b) (k : b.grownBy c r) (hy : ∀ i, i < a.heap.size → r = some i → X i) : Agree X a c := h.then (agree_grown k) hy
theorem Agree.thenBelow {X : Nat → Prop} {a b c : World} (h : Agree X a b) (k : Below b.heap.size b c) : Agree X a c :=
  ⟨k.os.trans h.os, k.tape.trans h.tape, k.output.trans h.output, Nat.le_trans h.size k.size, fun i hi hx => (k.block i (Nat.lt_of_lt_of_le hi h.size)).trans (h.block i hi hx)⟩

def Free (X : Nat → Prop) (w : World) (P : World → Prop) : Prop := ∀ w', Agree X w w' → P w'
theorem Free.now {X : Nat → Prop} {w : World} {P : World → Prop} (h : Free X w P) : P w := h w (Agree.refl X w)
theorem Free.to {X Y Z : Nat → Prop} {w w' : World} {P : World → Prop} (h : Free X w P) (ha : Agree Z w w') (hz : ∀ i, i < w.heap.size → Z i → X i) (hy : ∀ i, i < w.heap.size → Y i → X i) : Free Y w' P :=
  fun w2 h2 => h w2 ((ha.mono hz).then h2 hy)
theorem Free.mono {X Y : Nat → Prop} {w : World} {P : World → Prop} (h : Free X w P) (hy : ∀ i, i < w.heap.size → Y i → X i) : Free Y w P := fun w2 h2 => h w2 (h2.mono hy)
theorem Free.imp {X : Nat → Prop} {w : World} {P Q : World → Prop} (h : Free X w P) (hq : ∀ w', P w' → Q w') : Free X w Q := fun w2 h2 => hq _ (h w2 h2)
theorem Free.and {X : Nat → Prop} {w : World} {P Q : World → Prop} (h : Free X w P) (k : Free X w Q) : Free X w fun w' => P w' ∧ Q w' := fun w2 h2 => ⟨h w2 h2, k w2 h2⟩
/-- What is kept where nothing old turns. -/
theorem free_kept {w : World} {P : World → Prop} (h : ∀ w', Below w.heap.size w w' → P w') : Free (fun b => w.heap.size ≤ b) w P := fun w' k =>
  h w' ⟨k.os, k.tape, k.output, k.size, fun i hi => k.block i hi (by omega)⟩
/-- .. where nothing below a block turns. -/
theorem free_far {w w1 : World} {P : World → Prop} (hb : Below w.heap.size w w1) (h : ∀ w', Below w.heap.size w w' → P w') : Free (fun b => w.heap.size ≤ b) w1 P := fun w' k =>
  h w' ⟨k.os.trans hb.os, k.tape.trans hb.tape, k.output.trans hb.output, Nat.le_trans hb.size k.size, fun i hi => (k.block i (Nat.lt_of_lt_of_le hi hb.size) (by omega)).trans (hb.block i hi)⟩
/-- What lies from K on. -/
theorem agree_above {X : Nat → Prop} {w w' : World} (h : Agree X w w') {K : Nat} (hx : ∀ i, X i → i < K) : Above K w w' := fun b h1 h2 => h.block b h2 fun e => by have := hx b e; omega

/-- A row of one's own stays, where nothing of it is turned. -/
theorem ownsRow_agree {X : Nat → Prop} {w w' : World} {B : Nat} {E : TypeId} {sz : Nat} {v : Value} {n : Nat} {xs : List Value} (h : w.ownsRow B E sz v n xs) (ha : Agree X w w') (hx : ∀ i, v.ownBlock = some i → ¬ X i) : w'.ownsRow B E sz v n xs := by
  rcases h.2 with ⟨rfl, rfl⟩ | ⟨g, cap, cur, rfl, hbg, hh, r⟩
  · exact ⟨h.1, .inl ⟨rfl, rfl⟩⟩
  · refine ⟨h.1, .inr ⟨g, cap, cur, rfl, hbg, ?_, r⟩⟩
    rw [ha.block g (Array.getElem?_eq_some_iff.1 hh).1 (hx g rfl)]
    exact hh

end Go.Proofs.Ytnfjdoeemnhkbaa

namespace Go.Proofs.Ytnfjdoeemnhkbaa
set_option linter.unusedVariables false
open Go.RowKit

/-- t is the type of slices of e; one of e has so many cells, and bytes. -/
structure Elm (P : Program) (t e : TypeId) (sz bytes : Nat) : Prop where
  under : P.underlying t = some (.slice e)
  info : ∃ i z, P.info? e = some i ∧ i.zero = some z ∧ i.size = sz ∧ i.bytes = bytes ∧ z.cells.size = sz
  pos : 0 < sz
  few : bytes ≤ 10000
/-- Each has so many cells, and each cell is one. -/
def Ones (sz : Nat) (css : List (List Value)) : Prop := ∀ t ∈ css, t.length = sz ∧ ∀ u ∈ t, u.oneCell' = true
theorem Ones.flat {sz : Nat} {css : List (List Value)} (h : Ones sz css) : css.flatten.length = css.length * sz ∧ ∀ u ∈ css.flatten, u.oneCell' = true :=
  ⟨flatten_len css sz fun t ht => (h t ht).1, fun u hu => by obtain ⟨t, h1, h2⟩ := List.mem_flatten.1 hu; exact (h t h1).2 u h2⟩
theorem Ones.append {sz : Nat} {a b : List (List Value)} (h : Ones sz a) (k : Ones sz b) : Ones sz (a ++ b) := fun t ht => (List.mem_append.1 ht).elim (h t) (k t)
theorem flatten_find (css : List (List Value)) (sz : Nat) (hs : 0 < sz) (h : ∀ t ∈ css, t.length = sz) : ∀ (j : Nat) (u : Value), css.flatten[j]? = some u → ∃ k i t, j = k * sz + i ∧ css[k]? = some t ∧ t[i]? = some u := by
  induction css with
  | nil => intro j u hj; simp at hj
  | cons x r ih =>
    intro j u hj
    have hx := h x List.mem_cons_self
    rw [List.flatten_cons] at hj
    by_cases hlt : j < x.length
    · rw [List.getElem?_append_left hlt] at hj
      exact ⟨0, j, x, by omega, rfl, hj⟩
    · rw [List.getElem?_append_right (by omega)] at hj
      obtain ⟨k, i, t, e1, e2, e3⟩ := ih (fun t ht => h t (List.mem_cons_of_mem _ ht)) _ _ hj
      exact ⟨k + 1, i, t, by rw [Nat.add_mul]; omega, by rw [List.getElem?_cons_succ]; exact e2, e3⟩

theorem run_append_k {P : Program} {t e : TypeId} {sz bytes : Nat} (E : Elm P t e sz bytes) (w : World) (ty : TypeId) (base : Nat) (v : Value) (n : Nat) (xs : List Value) (hown : w.ownsRow base e sz v n xs)
    (y : Value) (yss : List (List Value)) (hy : RdS w sz y yss) (h1 : Ones sz yss) (hN : n + yss.length ≤ 10000000) (hbase : base ≤ w.heap.size) :
    ∃ ao cap w', (Builtin.append_ #[t, t] ty #[v, y]).run P w = .ok (.slice ao (n + yss.length) cap) w' ∧ w'.ownsRow base e sz (.slice ao (n + yss.length) cap) (n + yss.length) (xs ++ yss.flatten) ∧ w.grownBy w' v.ownBlock ∧
      (∀ g, (Value.slice ao (n + yss.length) cap).ownBlock = some g → v.ownBlock = some g ∨ g = w.heap.size) := by
  obtain ⟨i, z, hi, hz, hsize, hby, hzs⟩ := E.info
  obtain ⟨oy, cy, hv, hn, hc⟩ := hy
  subst hv
  rcases oy with _ | ad
  · have hl := hn.2
    rw [hn.1 rfl] at hl
    have hys : yss = [] := List.length_eq_zero_iff.1 (by omega)
    have hc0 := hn.1 rfl
    subst hys
    subst hc0
    obtain ⟨ao, cap, rfl⟩ := own_shape hown
    refine ⟨ao, cap, w, run_append_owned_none (P := P) (w := w) base t ty e i sz E.under hi _ n xs hown, by simpa using hown, ⟨rfl, rfl, rfl, Nat.le_refl _, fun _ _ _ => rfl⟩, fun g hg => .inl hg⟩
  · have hfl := h1.flat
    have hnews : ∀ j u, yss.flatten[j]? = some u → w.cell? (ad.add j) = some u := fun j u hj => by
      obtain ⟨k, q, t', e1, e2, e3⟩ := flatten_find yss sz E.pos (fun t ht => (h1 t ht).1) j u hj
      obtain ⟨b, off, ha, hcell⟩ := hc k t' e2
      cases ha
      have e : (⟨b, off, none⟩ : Addr).add j = ⟨b, off + j, none⟩ := by simp [Addr.add]
      rw [e, e1, ← Nat.add_assoc]
      exact hcell q u e3
    obtain ⟨v', w', hr, h2, h3, _, h5⟩ := run_append_own_at (P := P) w base t ty e i z sz bytes E.under hi hz hsize hby hzs E.pos v n xs hown ad yss.length cy yss.flatten hfl.1 hnews hfl.2 (by unfold maxLen; omega)
      (by have := E.few; have := Nat.mul_le_mul hN this; omega) hbase
    obtain ⟨ao, cap, rfl⟩ := own_shape h2
    refine ⟨ao, cap, w', hr, h2, h3, fun g hg => ?_⟩
    rcases h5 with h5 | h5
    · exact .inl (h5 ▸ hg)
    · rw [hg] at h5
      exact .inr (Option.some.inj h5)

theorem wp_append_k {P : Program} {t e : TypeId} {sz bytes : Nat} (E : Elm P t e sz bytes) {w : World} {o : Oper} {a : Act} {K : Act → World → Prop} {Q : Exit → Act → World → Prop} (s x : Operand)
    (ho : o.op = .call { callee := .builtin .append, args := #[s, x], argTypes := #[t, t] })
    (base : Nat) (v : Value) (n : Nat) (xs : List Value) (hs : a.eval s = v) (hown : w.ownsRow base e sz v n xs)
    (y : Value) (yss : List (List Value)) (hx : a.eval x = y) (hy : RdS w sz y yss) (h1 : Ones sz yss) (hN : n + yss.length ≤ 10000000) (hbase : base ≤ w.heap.size) (N : Nat) (hNN : n + yss.length = N)
    (h : ∀ ao cap w', w'.ownsRow base e sz (.slice ao N cap) N (xs ++ yss.flatten) → w.grownBy w' v.ownBlock → (∀ g, (Value.slice ao N cap).ownBlock = some g → v.ownBlock = some g ∨ g = w.heap.size) → K (a.put o.dst (.slice ao N cap)) w') : o.wp P a w K Q := by
  obtain ⟨ao, cap, w', hr, h2, h3, h4⟩ := run_append_k E w o.type base v n xs hown y yss hy h1 hN hbase
  subst hNN
  unfold Oper.wp execOp
  simp only [ho, resolve, invoke, builtin, Sem.run_bind, Sem.run_pure, Result.andThen_ok, List.map_toArray, List.map_cons, List.map_nil, hs, hx, hr]
  exact h ao cap w' h2 h3 h4

theorem wpList_append_k {P : Program} {t e : TypeId} {sz bytes : Nat} (E : Elm P t e sz bytes) {w : World} {ops : Array Oper} {rest : List Oper} {o : Oper} {a : Act} {Q : Exit → Act → World → Prop} (hgd : o.guard = none) (s x : Operand)
    (ho : o.op = .call { callee := .builtin .append, args := #[s, x], argTypes := #[t, t] })
    (base : Nat) (v : Value) (n : Nat) (xs : List Value) (hs : a.eval s = v) (hown : w.ownsRow base e sz v n xs)
    (y : Value) (yss : List (List Value)) (hx : a.eval x = y) (hy : RdS w sz y yss) (h1 : Ones sz yss) (hN : n + yss.length ≤ 10000000) (hbase : base ≤ w.heap.size) (N : Nat) (hNN : n + yss.length = N)
    (h : ∀ ao cap w', w'.ownsRow base e sz (.slice ao N cap) N (xs ++ yss.flatten) → w.grownBy w' v.ownBlock → (∀ g, (Value.slice ao N cap).ownBlock = some g → v.ownBlock = some g ∨ g = w.heap.size) → wpList P ops Q rest (a.put o.dst (.slice ao N cap)) w') : wpList P ops Q (o :: rest) a w :=
  wpList_plain hgd fun _ hK => wp_append_k E s x ho base v n xs hs hown y yss hx hy h1 hN hbase N hNN fun ao cap w' h2 h3 h4 => hK _ _ (h ao cap w' h2 h3 h4)

/-- A step of a region that draws, its guard open. -/
theorem step_append_k {P : Program} {t e : TypeId} {sz bytes : Nat} (E : Elm P t e sz bytes) {w : World} {ops : Array Oper} {o : Oper} {a : Act} {K : Act → World → Prop} {Q : Exit → Act → World → Prop} {D : Prop} (hw : Region.wanted o (yielded ops a.tmps) = true) (s x : Operand)
    (ho : o.op = .call { callee := .builtin .append, args := #[s, x], argTypes := #[t, t] })
    (base : Nat) (v : Value) (n : Nat) (xs : List Value) (hs : a.eval s = v) (hown : w.ownsRow base e sz v n xs)
    (y : Value) (yss : List (List Value)) (hx : a.eval x = y) (hy : RdS w sz y yss) (h1 : Ones sz yss) (hN : n + yss.length ≤ 10000000) (hbase : base ≤ w.heap.size) (N : Nat) (hNN : n + yss.length = N)
    (h : ∀ ao cap w', w'.ownsRow base e sz (.slice ao N cap) N (xs ++ yss.flatten) → w.grownBy w' v.ownBlock → (∀ g, (Value.slice ao N cap).ownBlock = some g → v.ownBlock = some g ∨ g = w.heap.size) → K (a.put o.dst (.slice ao N cap)) w') :
    if Region.wanted o (yielded ops a.tmps) = true then Oper.wp P o a w K Q else D := by
  rw [if_pos hw]
  exact wp_append_k E s x ho base v n xs hs hown y yss hx hy h1 hN hbase N hNN h

/-- One thing, just laid, read as a slice. -/
theorem rdS_lit (w : World) (cs : Array Value) (E : TypeId) (sz : Nat) (hs : cs.size = sz) : RdS (w.alloc (.cells cs E)) sz (.slice (some ⟨w.heap.size, 0, none⟩) 1 1) [cs.toList] := by
  refine ⟨some ⟨w.heap.size, 0, none⟩, 1, rfl, ⟨(fun h => by cases h), Nat.le_refl _⟩, fun k t ht => ⟨w.heap.size, 0, rfl, fun j u hu => ?_⟩⟩
  have hk : k = 0 := by have := (List.getElem?_eq_some_iff.1 ht).1; simp at this; omega
  subst hk
  simp only [List.getElem?_cons_zero, Option.some.injEq] at ht
  subst ht
  rw [cell_of_row _ w.heap.size _ _ _ _ (heap_alloc_new w _)]
  simpa using hu
theorem rdS_flat {w : World} {v : Value} {xs : List Value} (h : Rd w v xs) : RdS w 1 v (xs.map fun u => [u]) := by
  obtain ⟨ao, cap, hv, hn, hc⟩ := h
  refine ⟨ao, cap, by rw [List.length_map]; exact hv, by rw [List.length_map]; exact hn, fun k t ht => ?_⟩
  rw [List.getElem?_map] at ht
  cases hx : xs[k]? with
  | none => rw [hx] at ht; cases ht
  | some x =>
    rw [hx] at ht
    cases ht
    have hlt := (List.getElem?_eq_some_iff.1 hx).1
    obtain ⟨b, off, ha, hcell⟩ := hc (by omega)
    refine ⟨b, off, ha, fun j u hu => ?_⟩
    have hj : j = 0 := by have := (List.getElem?_eq_some_iff.1 hu).1; simp at this; omega
    subst hj
    simp only [List.getElem?_cons_zero, Option.some.injEq] at hu
    subst hu
    rw [show off + k * 1 + 0 = off + k by omega, hcell k hlt, List.getD_eq_getElem?_getD, hx]
    rfl
theorem flat_ones (xs : List Value) : (xs.map fun u => [u]).flatten = xs := by
  induction xs with
  | nil => rfl
  | cons x r ih => rw [List.map_cons, List.flatten_cons, ih]; rfl
theorem ones_flat {xs : List Value} (h : ∀ u ∈ xs, u.oneCell' = true) : Ones 1 (xs.map fun u => [u]) := fun t ht => by
  obtain ⟨x, hx, rfl⟩ := List.mem_map.1 ht
  exact ⟨rfl, fun u hu => by rw [List.mem_singleton.1 hu]; exact h x hx⟩

theorem elmPred : Elm Try.prog 63 65 8 96 := by
  have hi0 : ∃ i, Try.prog.info? 65 = some i ∧ i.zero = some (.agg #[.int .i64 0, .int .i64 0, .int .i64 0, .bool false, .int .i64 0, .int .i64 0, .slice none 0 0, .slice none 0 0]) ∧ i.size = 8 ∧ i.bytes = 96 := by
    have h := infoPred
    cases hq : Try.prog.info? 65 with
    | none => rw [hq] at h; cases h
    | some i =>
      rw [hq] at h
      simp only [Option.map_some, Option.some.injEq, Prod.mk.injEq] at h
      exact ⟨i, rfl, h⟩
  obtain ⟨i, h1, h2, h3, h4⟩ := hi0
  exact ⟨Try.underlying63, ⟨i, _, h1, h2, h3, h4, rfl⟩, by decide, by decide⟩

end Go.Proofs.Ytnfjdoeemnhkbaa
