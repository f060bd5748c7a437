import Derived.Test.YtmpgnjhgegbdkaaGreatLseven
import Derived.Deep.AppendLies
import Derived.Laws.AppendOwnNone
import Derived.Laws.CopyOwn
import Derived.Laws.OwnMore
import Derived.Lib.SliceRun
import Derived.Lib.Overlaps
set_option linter.unusedVariables false
set_option linter.unusedSimpArgs false
namespace Go.Proofs.YtmpgnjhgegbdkaaGreat
open Go.RowKit
open _root_.List renaming replicate -> Qa, eq_of_mem_replicate -> Qd, getElem?_eq_some_iff -> Qf, mem_flatten -> Qh, flatten_cons -> Qi, length_eq_zero_iff -> Qj, map_cons -> Qk, getElem?_cons_zero -> Ql, length_map -> Qm, length_replicate -> Qn, getElem?_eq_getElem -> Qp, getElem?_eq_none -> Qq, length_take -> Qs
open _root_.Nat renaming le_trans -> Qb, le_refl -> Qc, lt_of_lt_of_le -> Qe, mul_comm -> Qo, mul_le_mul_right -> Qr
open Go.World renaming setCell -> Qg
open Go renaming heap_setCell_other -> Qt
structure Agree (X : Nat -> Prop) (w w' : World) : Prop where
 os : w'.os = w.os
 tape : w'.tape = w.tape
 output : w'.output = w.output
 size : w.heap.size <= w'.heap.size
 block : ∀ i, i < w.heap.size -> ¬ X i -> w'.heap[i]? = w.heap[i]?
theorem Agree.refl (X : Nat -> Prop) (w : World) : Agree X w w := ⟨rfl, rfl, rfl, Qc _, fun _ _ _ => rfl⟩
theorem Agree.trans {X : Nat -> Prop} {a b c : World} (h : Agree X a b) (k : Agree X b c) : Agree X a c :=
 ⟨k.os.trans h.os, k.tape.trans h.tape, k.output.trans h.output, Qb h.size k.size, fun i hi hx => (k.block i (Qe hi h.size) hx).trans (h.block i hi hx)⟩
theorem Agree.mono {X Y : Nat -> Prop} {a b : World} (h : Agree X a b) (hx : ∀ i, i < a.heap.size -> X i -> Y i) : Agree Y a b :=
 ⟨h.os, h.tape, h.output, h.size, fun i hi hy => h.block i hi fun e => hy (hx i hi e)⟩
theorem zC1 {w w' : World} {r : Option Nat} (h : w.grownBy w' r) : Agree (fun b => r = some b) w w' :=
 ⟨h.os, h.tape, h.output, h.size, fun i hi hx => h.block i hi fun e => hx e.symm⟩
theorem zMj {w w' : World} {B : Nat} (h : Below B w w') (hs : w.heap.size <= w'.heap.size) : Agree (fun b => B <= b) w w' :=
 ⟨h.os, h.tape, h.output, hs, fun i hi hx => h.block i (by omega)⟩
theorem zCf (X : Nat -> Prop) (w : World) (o : Obj) : Agree X w (w.alloc o) :=
 ⟨rfl, rfl, rfl, by simp, fun i hi _ => heap_alloc_old w o hi⟩
theorem zJo (X : Nat -> Prop) (w : World) : Agree X w w.drew := ⟨rfl, rfl, rfl, Qc _, fun _ _ _ => rfl⟩
theorem zBl (X : Nat -> Prop) (w : World) (a : Addr) (u : Value) (h : X a.block) : Agree X w (w.setCell a u) :=
 ⟨rfl, rfl, rfl, by simp [Qg], fun i hi hx => Qt w a i u (fun e => hx (e ▸ h))⟩
theorem Agree.alloc {X : Nat -> Prop} {a b : World} (h : Agree X a b) (o : Obj) : Agree X a (b.alloc o) := h.trans (zCf X b o)
theorem Agree.drew {X : Nat -> Prop} {a b : World} (h : Agree X a b) : Agree X a b.drew := h.trans (zJo X b)
theorem Agree.set {X : Nat -> Prop} {a b : World} (h : Agree X a b) (p : Addr) (u : Value) (hx : X p.block ∨ a.heap.size <= p.block) : Agree X a (b.setCell p u) :=
 ⟨h.os, h.tape, h.output, Qb h.size (by simp [Qg]), fun i hi hn => (Qt b p i u (fun e => hx.elim (fun h => hn (e ▸ h)) fun h => by omega)).trans (h.block i hi hn)⟩
theorem Agree.below {X : Nat -> Prop} {a b : World} {B : Nat} (h : Agree X a b) (hx : ∀ i, i < B -> ¬ X i) (hB : B <= a.heap.size) : Below B a b :=
 ⟨h.os, h.tape, h.output, h.size, fun i hi => h.block i (by omega) (hx i hi)⟩
theorem Agree.grown {w w' : World} {r : Option Nat} (h : Agree (fun b => r = some b) w w') : w.grownBy w' r :=
 ⟨h.os, h.tape, h.output, h.size, fun i hi hx => h.block i hi fun e => hx e.symm⟩
theorem Agree.then {X Y : Nat -> Prop} {a b c : World} (h : Agree X a b) (k : Agree Y b c) (hy : ∀ i, i < a.heap.size -> Y i -> X i) : Agree X a c :=
 ⟨k.os.trans h.os, k.tape.trans h.tape, k.output.trans h.output, Qb h.size k.size, fun i hi hx => (k.block i (Qe hi h.size) fun e => hx (hy i hi e)).trans (h.block i hi hx)⟩
theorem Agree.thenGrown {X : Nat -> Prop} {a b c : World} {r : Option Nat} (h : Agree X a b) (k : b.grownBy c r) (hy : ∀ i, i < a.heap.size -> r = some i -> X i) : Agree X a c := h.then (zC1 k) hy
theorem Agree.thenBelow {X : Nat -> Prop} {a b c : World} (h : Agree X a b) (k : Below b.heap.size b c) : Agree X a c :=
 ⟨k.os.trans h.os, k.tape.trans h.tape, k.output.trans h.output, Qb h.size k.size, fun i hi hx => (k.block i (Qe hi h.size)).trans (h.block i hi hx)⟩
def Free (X : Nat -> Prop) (w : World) (P : World -> Prop) : Prop := ∀ w', Agree X w w' -> P w'
theorem Free.now {X : Nat -> Prop} {w : World} {P : World -> Prop} (h : Free X w P) : P w := h w (Agree.refl X w)
theorem Free.to {X Y Z : Nat -> Prop} {w w' : World} {P : World -> Prop} (h : Free X w P) (ha : Agree Z w w') (hz : ∀ i, i < w.heap.size -> Z i -> X i) (hy : ∀ i, i < w.heap.size -> Y i -> X i) : Free Y w' P :=
 fun w2 h2 => h w2 ((ha.mono hz).then h2 hy)
theorem Free.mono {X Y : Nat -> Prop} {w : World} {P : World -> Prop} (h : Free X w P) (hy : ∀ i, i < w.heap.size -> Y i -> X i) : Free Y w P := fun w2 h2 => h w2 (h2.mono hy)
theorem Free.imp {X : Nat -> Prop} {w : World} {P Q : World -> Prop} (h : Free X w P) (hq : ∀ w', P w' -> Q w') : Free X w Q := fun w2 h2 => hq _ (h w2 h2)
theorem Free.and {X : Nat -> Prop} {w : World} {P Q : World -> Prop} (h : Free X w P) (k : Free X w Q) : Free X w fun w' => P w' ∧ Q w' := fun w2 h2 => ⟨h w2 h2, k w2 h2⟩
theorem zHu {X : Nat -> Prop} {w w' : World} (h : Agree X w w') {K : Nat} (hx : ∀ i, X i -> i < K) : Above K w w' := fun b h1 h2 => h.block b h2 fun e => by have := hx b e; omega
theorem zAe {X : Nat -> Prop} {w w' : World} {B : Nat} {E : TypeId} {sz : Nat} {v : Value} {n : Nat} {xs : List Value} (h : w.ownsRow B E sz v n xs) (ha : Agree X w w') (hx : ∀ i, v.ownBlock = some i -> ¬ X i) : w'.ownsRow B E sz v n xs := by
 rcases h.2 with ⟨rfl, rfl⟩ | ⟨g, cap, cur, rfl, hbg, hh, r⟩
 ·exact ⟨h.1, .inl ⟨rfl, rfl⟩⟩
 ·refine ⟨h.1, .inr ⟨g, cap, cur, rfl, hbg, ?_, r⟩⟩
  rw [ha.block g (Array.getElem?_eq_some_iff.1 hh).1 (hx g rfl)]
  exact hh
structure Elm (P : Program) (t e : TypeId) (sz bytes : Nat) : Prop where
 under : P.underlying t = some (.slice e)
 info : ∃ i z, P.info? e = some i ∧ i.zero = some z ∧ i.size = sz ∧ i.bytes = bytes ∧ z.cells.size = sz
 pos : 0 < sz
 few : bytes <= 10000
def Ones (sz : Nat) (css : List (List Value)) : Prop := ∀ t ∈ css, t.length = sz ∧ ∀ u ∈ t, u.oneCell' = true
theorem Ones.flat {sz : Nat} {css : List (List Value)} (h : Ones sz css) : css.flatten.length = css.length * sz ∧ ∀ u ∈ css.flatten, u.oneCell' = true :=
 ⟨zC0 css sz fun t ht => (h t ht).1, fun u hu => by obtain ⟨t, h1, h2⟩ := Qh.1 hu; exact (h t h1).2 u h2⟩
theorem Ones.append {sz : Nat} {a b : List (List Value)} (h : Ones sz a) (k : Ones sz b) : Ones sz (a ++ b) := fun t ht => (List.mem_append.1 ht).elim (h t) (k t)
theorem zK7 (css : List (List Value)) (sz : Nat) (hs : 0 < sz) (h : ∀ t ∈ css, t.length = sz) : ∀ (j : Nat) (u : Value), css.flatten[j]? = some u -> ∃ k i t, j = k * sz + i ∧ css[k]? = some t ∧ t[i]? = some u := by
 induction css with
 | nil => intro j u hj; simp at hj
 | cons x r ih =>
  intro j u hj
  have hx := h x List.mem_cons_self
  rw [Qi] at hj
  by_cases hlt : j < x.length
  ·rw [List.getElem?_append_left hlt] at hj
   exact ⟨0, j, x, by omega, rfl, hj⟩
  ·rw [List.getElem?_append_right (by omega)] at hj
   obtain ⟨k, i, t, e1, e2, e3⟩ := ih (fun t ht => h t (List.mem_cons_of_mem _ ht)) _ _ hj
   exact ⟨k + 1, i, t, by rw [Nat.add_mul]; omega, by rw [List.getElem?_cons_succ]; exact e2, e3⟩
theorem zK8 {P : Program} {t e : TypeId} {sz bytes : Nat} (E : Elm P t e sz bytes) (w : World) (ty : TypeId) (base : Nat) (v : Value) (n : Nat) (xs : List Value) (hown : w.ownsRow base e sz v n xs)
  (y : Value) (yss : List (List Value)) (hy : RdS w sz y yss) (h1 : Ones sz yss) (hN : n + yss.length <= 10000000) (hbase : base <= w.heap.size) :
  ∃ ao cap w', (Builtin.append_ #[t, t] ty #[v, y]).run P w = .ok (.slice ao (n + yss.length) cap) w' ∧ w'.ownsRow base e sz (.slice ao (n + yss.length) cap) (n + yss.length) (xs ++ yss.flatten) ∧ w.grownBy w' v.ownBlock ∧
   (∀ g, (Value.slice ao (n + yss.length) cap).ownBlock = some g -> v.ownBlock = some g ∨ g = w.heap.size) := by
 obtain ⟨i, z, hi, hz, hsize, hby, hzs⟩ := E.info
 obtain ⟨oy, cy, hv, hn, hc⟩ := hy
 subst hv
 rcases oy with _ | ad
 ·have hl := hn.2
  rw [hn.1 rfl] at hl
  have hys : yss = [] := Qj.1 (by omega)
  have hc0 := hn.1 rfl
  subst hys
  subst hc0
  obtain ⟨ao, cap, rfl⟩ := zB2 hown
  refine ⟨ao, cap, w, run_append_owned_none (P := P) (w := w) base t ty e i sz E.under hi _ n xs hown, by simpa using hown, ⟨rfl, rfl, rfl, Qc _, fun _ _ _ => rfl⟩, fun g hg => .inl hg⟩
 ·have hfl := h1.flat
  have hnews : ∀ j u, yss.flatten[j]? = some u -> w.cell? (ad.add j) = some u := fun j u hj => by
   obtain ⟨k, q, t', e1, e2, e3⟩ := zK7 yss sz E.pos (fun t ht => (h1 t ht).1) j u hj
   obtain ⟨b, off, ha, hcell⟩ := hc k t' e2
   cases ha
   have e : (⟨b, off, none⟩ : Addr).add j = ⟨b, off + j, none⟩ := by simp [Addr.add]
   rw [e, e1, <- Nat.add_assoc]
   exact hcell q u e3
  obtain ⟨v', w', hr, h2, h3, _, h5⟩ := run_append_own_at (P := P) w base t ty e i z sz bytes E.under hi hz hsize hby hzs E.pos v n xs hown ad yss.length cy yss.flatten hfl.1 hnews hfl.2 (by unfold maxLen; omega)
   (by have := E.few; have := Nat.mul_le_mul hN this; omega) hbase
  obtain ⟨ao, cap, rfl⟩ := zB2 h2
  refine ⟨ao, cap, w', hr, h2, h3, fun g hg => ?_⟩
  rcases h5 with h5 | h5
  ·exact .inl (h5 ▸ hg)
  ·rw [hg] at h5
   exact .inr (Option.some.inj h5)
theorem zHv {P : Program} {t e : TypeId} {sz bytes : Nat} (E : Elm P t e sz bytes) {w : World} {o : Oper} {a : Act} {K : Act -> World -> Prop} {Q : Exit -> Act -> World -> Prop} (s x : Operand)
  (ho : o.op = .call { callee := .builtin .append, args := #[s, x], argTypes := #[t, t] })
  (base : Nat) (v : Value) (n : Nat) (xs : List Value) (hs : a.eval s = v) (hown : w.ownsRow base e sz v n xs)
  (y : Value) (yss : List (List Value)) (hx : a.eval x = y) (hy : RdS w sz y yss) (h1 : Ones sz yss) (hN : n + yss.length <= 10000000) (hbase : base <= w.heap.size) (N : Nat) (hNN : n + yss.length = N)
  (h : ∀ ao cap w', w'.ownsRow base e sz (.slice ao N cap) N (xs ++ yss.flatten) -> w.grownBy w' v.ownBlock -> (∀ g, (Value.slice ao N cap).ownBlock = some g -> v.ownBlock = some g ∨ g = w.heap.size) -> K (a.put o.dst (.slice ao N cap)) w') : o.wp P a w K Q := by
 obtain ⟨ao, cap, w', hr, h2, h3, h4⟩ := zK8 E w o.type base v n xs hown y yss hy h1 hN hbase
 subst hNN
 unfold Oper.wp execOp
 simp only [ho, resolve, invoke, builtin, Sem.run_bind, Sem.run_pure, Result.andThen_ok, List.map_toArray, Qk, List.map_nil, hs, hx, hr]
 exact h ao cap w' h2 h3 h4
theorem zAf {P : Program} {t e : TypeId} {sz bytes : Nat} (E : Elm P t e sz bytes) {w : World} {ops : Array Oper} {rest : List Oper} {o : Oper} {a : Act} {Q : Exit -> Act -> World -> Prop} (hgd : o.guard = none) (s x : Operand)
  (ho : o.op = .call { callee := .builtin .append, args := #[s, x], argTypes := #[t, t] })
  (base : Nat) (v : Value) (n : Nat) (xs : List Value) (hs : a.eval s = v) (hown : w.ownsRow base e sz v n xs)
  (y : Value) (yss : List (List Value)) (hx : a.eval x = y) (hy : RdS w sz y yss) (h1 : Ones sz yss) (hN : n + yss.length <= 10000000) (hbase : base <= w.heap.size) (N : Nat) (hNN : n + yss.length = N)
  (h : ∀ ao cap w', w'.ownsRow base e sz (.slice ao N cap) N (xs ++ yss.flatten) -> w.grownBy w' v.ownBlock -> (∀ g, (Value.slice ao N cap).ownBlock = some g -> v.ownBlock = some g ∨ g = w.heap.size) -> wpList P ops Q rest (a.put o.dst (.slice ao N cap)) w') : wpList P ops Q (o :: rest) a w :=
 wpList_plain hgd fun _ hK => zHv E s x ho base v n xs hs hown y yss hx hy h1 hN hbase N hNN fun ao cap w' h2 h3 h4 => hK _ _ (h ao cap w' h2 h3 h4)
theorem zBc {P : Program} {t e : TypeId} {sz bytes : Nat} (E : Elm P t e sz bytes) {w : World} {ops : Array Oper} {o : Oper} {a : Act} {K : Act -> World -> Prop} {Q : Exit -> Act -> World -> Prop} {D : Prop} (hw : Region.wanted o (yielded ops a.tmps) = true) (s x : Operand)
  (ho : o.op = .call { callee := .builtin .append, args := #[s, x], argTypes := #[t, t] })
  (base : Nat) (v : Value) (n : Nat) (xs : List Value) (hs : a.eval s = v) (hown : w.ownsRow base e sz v n xs)
  (y : Value) (yss : List (List Value)) (hx : a.eval x = y) (hy : RdS w sz y yss) (h1 : Ones sz yss) (hN : n + yss.length <= 10000000) (hbase : base <= w.heap.size) (N : Nat) (hNN : n + yss.length = N)
  (h : ∀ ao cap w', w'.ownsRow base e sz (.slice ao N cap) N (xs ++ yss.flatten) -> w.grownBy w' v.ownBlock -> (∀ g, (Value.slice ao N cap).ownBlock = some g -> v.ownBlock = some g ∨ g = w.heap.size) -> K (a.put o.dst (.slice ao N cap)) w') :
  if Region.wanted o (yielded ops a.tmps) = true then Oper.wp P o a w K Q else D := by
 rw [if_pos hw]
 exact zHv E s x ho base v n xs hs hown y yss hx hy h1 hN hbase N hNN h
theorem zBa (w : World) (cs : Array Value) (E : TypeId) (sz : Nat) (hs : cs.size = sz) : RdS (w.alloc (.cells cs E)) sz (.slice (some ⟨w.heap.size, 0, none⟩) 1 1) [cs.toList] := by
 refine ⟨some ⟨w.heap.size, 0, none⟩, 1, rfl, ⟨(fun h => by cases h), Qc _⟩, fun k t ht => ⟨w.heap.size, 0, rfl, fun j u hu => ?_⟩⟩
 have hk : k = 0 := by have := (Qf.1 ht).1; simp at this; omega
 subst hk
 simp only [Ql, Option.some.injEq] at ht
 subst ht
 rw [cell_of_row _ w.heap.size _ _ _ _ (heap_alloc_new w _)]
 simpa using hu
theorem zAs {w : World} {v : Value} {xs : List Value} (h : Rd w v xs) : RdS w 1 v (xs.map fun u => [u]) := by
 obtain ⟨ao, cap, hv, hn, hc⟩ := h
 refine ⟨ao, cap, by rw [Qm]; exact hv, by rw [Qm]; exact hn, fun k t ht => ?_⟩
 rw [List.getElem?_map] at ht
 cases hx : xs[k]? with
 | none => rw [hx] at ht; cases ht
 | some x =>
  rw [hx] at ht
  cases ht
  have hlt := (Qf.1 hx).1
  obtain ⟨b, off, ha, hcell⟩ := hc (by omega)
  refine ⟨b, off, ha, fun j u hu => ?_⟩
  have hj : j = 0 := by have := (Qf.1 hu).1; simp at this; omega
  subst hj
  simp only [Ql, Option.some.injEq] at hu
  subst hu
  rw [show off + k * 1 + 0 = off + k by omega, hcell k hlt, List.getD_eq_getElem?_getD, hx]
  rfl
theorem zAp (xs : List Value) : (xs.map fun u => [u]).flatten = xs := by
 induction xs with
 | nil => rfl
 | cons x r ih => rw [Qk, Qi, ih]; rfl
theorem zAr {xs : List Value} (h : ∀ u ∈ xs, u.oneCell' = true) : Ones 1 (xs.map fun u => [u]) := fun t ht => by
 obtain ⟨x, hx, rfl⟩ := List.mem_map.1 ht
 exact ⟨rfl, fun u hu => by rw [List.mem_singleton.1 hu]; exact h x hx⟩
theorem zI5 (zs : List Value) (n : Nat) : (Builtin.zeroCells zs.toArray n).toList = (Qa n zs).flatten := by
 by_cases h0 : zs.length = 0
 ·have : zs = [] := Qj.1 h0
  subst this
  simp [Builtin.zeroCells]
 ·apply List.ext_getElem?
  intro j
  have hl : ((Qa n zs).flatten).length = n * zs.length := by
   rw [zC0 _ zs.length (fun t ht => by rw [Qd ht]), Qn]
  by_cases hj : j < n * zs.length
  ·have hq : j / zs.length < n := Nat.div_lt_of_lt_mul (by rw [Qo]; exact hj)
   have hm : j % zs.length < zs.length := Nat.mod_lt _ (by omega)
   have hd : j / zs.length * zs.length + j % zs.length = j := by rw [Qo]; exact Nat.div_add_mod j zs.length
   have h2 := zDi (Qa n zs) zs.length (fun t ht => by rw [Qd ht]) (j / zs.length) zs (j % zs.length) (zs[j % zs.length]'hm) (by rw [List.getElem?_replicate, if_pos hq]) (Qp hm)
   rw [hd] at h2
   rw [h2]
   simp [Builtin.zeroCells, hj, Qp hm]
  ·rw [Qq (l := (Qa n zs).flatten) (by rw [hl]; omega), Qq (by simp [Builtin.zeroCells]; omega)]
theorem zFv {P : Program} (w : World) (t e ty : TypeId) (zs : List Value) (z : Value) (ht : P.underlying t = some (.slice e)) (hv : ∀ w, (zeroValue e).run P w = .ok z w) (hz : z.cells = zs.toArray) (h1 : ∀ u ∈ zs, u.oneCell' = true) (g o n c : Nat) (cur : List Value) (E : TypeId)
  (hg : w.heap[g]? = some (.cells cur.toArray E (0, 0))) (hfit : o + n * zs.length <= cur.length) (hn : 0 < n) :
  (Builtin.clear_ #[t] ty #[.slice (some ⟨g, o, none⟩) n c]).run P w = .ok (.tuple #[]) (w.setRow g (splice cur o (Qa n zs).flatten).toArray) := by
 have hlen : ((Qa n zs).flatten).length = n * zs.length := by
  rw [zC0 _ zs.length (fun t ht => by rw [Qd ht]), Qn]
 have hst := run_storeCells_at P g o E (Qa n zs).flatten 0 cur.toArray w hg (by simpa [hlen] using hfit) (fun u hu => by
  obtain ⟨t, ht, hu2⟩ := Qh.1 hu
  rw [Qd ht] at hu2
  exact h1 u hu2)
 have hzc := zI5 zs n
 obtain ⟨m, rfl⟩ : ∃ m, n = m + 1 := ⟨n - 1, by omega⟩
 simp [Builtin.clear_, run_underlying ht, hv, hz, hzc, hst, splice]
theorem zK9 {w : World} {base : Nat} {e : TypeId} {sz g n cap : Nat} {xs : List Value} (h : w.ownsRow base e sz (.slice (some ⟨g, 0, none⟩) n cap) n xs) (m : Nat) (hm : m <= n) : w.ownsRow base e sz (.slice (some ⟨g, 0, none⟩) m cap) m (xs.take (m * sz)) := by
 obtain ⟨hl, h2⟩ := h
 have hle : m * sz <= n * sz := Qr _ hm
 refine ⟨by rw [Qs, hl]; omega, .inr ?_⟩
 rcases h2 with ⟨hv, _⟩ | ⟨g', cap', cur, hv, hb, hg, hnc, hcm, hcs, htake⟩
 ·simp at hv
 ·simp only [Value.slice.injEq, Option.some.injEq, Addr.mk.injEq, and_true, true_and] at hv
  obtain ⟨rfl, rfl⟩ := hv
  refine ⟨g, cap, cur, rfl, hb, hg, Qb hm hnc, hcm, hcs, ?_⟩
  rw [<- htake, List.take_take, Nat.min_eq_left hle]
theorem zCo {w : World} {base : Nat} {e : TypeId} {sz g n cap : Nat} {xs : List Value} (h : w.ownsRow base e sz (.slice (some ⟨g, 0, none⟩) n cap) n xs) : ∃ cur : List Value, w.heap[g]? = some (.cells cur.toArray e (0, 0)) ∧ n <= cap ∧ cap <= maxLen ∧ cur.length = cap * sz ∧ cur.take (n * sz) = xs ∧ base <= g := by
 rcases h.2 with ⟨hv, _⟩ | ⟨g', cap', cur, hv, hb, hg, hnc, hcm, hcs, htake⟩
 ·simp at hv
 ·simp only [Value.slice.injEq, Option.some.injEq, Addr.mk.injEq, and_true, true_and] at hv
  obtain ⟨rfl, rfl⟩ := hv
  exact ⟨cur.toList, by simpa using hg, hnc, hcm, by simpa using hcs, htake, hb⟩
theorem zDk {w : World} {base : Nat} {e : TypeId} {sz g n cap : Nat} {cur xs : List Value} (hg : w.heap[g]? = some (.cells cur.toArray e (0, 0))) (hnc : n <= cap) (hcm : cap <= maxLen) (hcs : cur.length = cap * sz) (htake : cur.take (n * sz) = xs) (hb : base <= g) : w.ownsRow base e sz (.slice (some ⟨g, 0, none⟩) n cap) n xs := by
 have hle : n * sz <= cap * sz := Qr _ hnc
 exact ⟨by rw [<- htake, Qs]; omega, .inr ⟨g, cap, cur.toArray, rfl, hb, hg, hnc, hcm, by simpa using hcs, by simpa using htake⟩⟩
theorem zG1 (w : World) (g : Nat) (cs : Array Value) : w.grownBy (w.setRow g cs) (some g) := ⟨rfl, rfl, rfl, by simp [World.setRow], fun k _ hk => setRow_other w g k _ (fun e => hk (by simp [e]))⟩
end Go.Proofs.YtmpgnjhgegbdkaaGreat
