import Derived.Test.YtmpgnjhgegbdkaaGreatSge
import Derived.Test.YtmpgnjhgegbdkaaGreatGtbase
set_option linter.unusedVariables false
set_option linter.unusedSimpArgs false
namespace Go.Proofs.YtmpgnjhgegbdkaaGreat
open Go.RowKit
open _root_.List renaming mem_of_getElem? -> Qa, getElem?_eq_some_iff -> Qb, mem_cons_self -> Qc, length_set -> Qd, getElem?_set_self -> Qe, mem_cons_of_mem -> Qf, mem_or_eq_of_mem_set -> Qg, getElem?_eq_getElem -> Qh, mem_cons -> Qi, getElem?_set_ne -> Qj, mem_append -> Qk, mem_singleton -> Ql, ext_getElem? -> Qm
open _root_.Option renaming map_some -> Qn
def FreeA (B : Nat) (X : Nat -> Prop) (w : World) (P : World -> Prop) : Prop := ∀ w' : World, (∀ b, B <= b -> b < w.heap.size -> ¬ X b -> w'.heap[b]? = w.heap[b]?) -> P w'
theorem FreeA.now {B : Nat} {X : Nat -> Prop} {w : World} {P : World -> Prop} (h : FreeA B X w P) : P w := h w fun _ _ _ _ => rfl
theorem FreeA.at_ {B : Nat} {X Y : Nat -> Prop} {w w' : World} {P : World -> Prop} (h : FreeA B X w P) (ha : ∀ b, B <= b -> b < w.heap.size -> ¬ X b -> w'.heap[b]? = w.heap[b]?) (hs : w.heap.size <= w'.heap.size) (hy : ∀ i, i < w.heap.size -> Y i -> X i) : FreeA B Y w' P :=
 fun w2 h2 => h w2 fun b h3 h4 h5 => (h2 b h3 (Nat.lt_of_lt_of_le h4 hs) fun e => h5 (hy b h4 e)).trans (ha b h3 h4 h5)
theorem FreeA.to {B : Nat} {X Y Z : Nat -> Prop} {w w' : World} {P : World -> Prop} (h : FreeA B X w P) (ha : Agree Z w w') (hz : ∀ i, i < w.heap.size -> Z i -> X i) (hy : ∀ i, i < w.heap.size -> Y i -> X i) : FreeA B Y w' P :=
 h.at_ (fun b _ h2 h3 => ha.block b h2 fun e => h3 (hz b h2 e)) ha.size hy
structure RowsB (B : Nat) (w : World) (v : Value) (sls : List Value) (L : List (List (Vc × Value))) : Prop where
 own : w.ownsRow B 27 1 v L.length sls
 len : sls.length = L.length
 apart : Bc.Apart (v :: sls)
 row : ∀ (i : Nat) (s : Value) (l : List (Vc × Value)), sls[i]? = some s -> L[i]? = some l -> w.ownsRow B 31 4 s l.length (l.map cellsV).flatten
 val : FreeA B (fun b => ∃ u ∈ v :: sls, u.ownBlock = some b) w fun w' => ∀ l ∈ L, ∀ t ∈ l, RdB B w' t.2 t.1.b
 lt : ∀ l ∈ L, ∀ t ∈ l, ∀ x ∈ t.1.b, x < 256
theorem zU2 {B : Nat} {w w' : World} {E : TypeId} {v : Value} {n : Nat} {xs : List Value} (h : w.ownsRow B E 1 v n xs) (ha : Above B w w') : Rd w' v xs := by
 have h0 := h
 have hl : xs.length = n := by simpa using h.1
 rcases h.2 with ⟨rfl, rfl⟩ | ⟨g, cap, cur, rfl, hbg, hh, r⟩
 ·have : xs = [] := List.length_eq_zero_iff.1 hl
  subst this
  exact Rd.nil _
 ·refine ⟨some ⟨g, 0, none⟩, cap, by rw [hl], ⟨(fun h => by cases h), by rw [hl]; exact r.1⟩, fun _ => ⟨g, 0, rfl, fun i hi => ?_⟩⟩
  have := h0.cellAt i (by omega)
  rw [Nat.zero_add]
  refine zFf ha hbg ?_
  rw [this, List.getD_eq_getElem?_getD, Qh hi]; rfl
def RdRsA (B : Nat) (w : World) (v : Value) (L : List (List (Vc × Value))) : Prop := ∀ w', Above B w w' -> RdRs w' v L
theorem RdRsA.above {B B' : Nat} {w w' : World} {v : Value} {L : List (List (Vc × Value))} (h : RdRsA B w v L) (hs : w.heap.size <= w'.heap.size) (ha : Above B w w') (hk : B' <= B) : RdRsA B' w' v L :=
 fun w'' h2 => h w'' (ha.trans hs (h2.mono hk))
theorem RdRsA.rd {B : Nat} {w : World} {v : Value} {L : List (List (Vc × Value))} (h : RdRsA B w v L) : RdRs w v L := h w (Above.refl _ _)
theorem RowsB.rdA {B : Nat} {w : World} {v : Value} {sls : List Value} {L : List (List (Vc × Value))} (h : RowsB B w v sls L) : RdRsA B w v L := fun w' ha =>
 ⟨sls, zU2 h.own ha, h.len, fun i s l hs hl => ⟨(zC8 (h.row i s l hs hl) (by rw [List.length_map]) (fun t ht => by obtain ⟨c, _, rfl⟩ := List.mem_map.1 ht; rfl)).above ha (Nat.le_refl _) |>.rd,
  fun t ht => ⟨(h.val.now l (Qa hl) t ht).rd ha, h.lt l (Qa hl) t ht⟩⟩⟩
theorem RowsB.blocks {B : Nat} {w : World} {v : Value} {sls : List Value} {L : List (List (Vc × Value))} (h : RowsB B w v sls L) : ∀ u ∈ v :: sls, ∀ b, u.ownBlock = some b -> B <= b ∧ b < w.heap.size := fun u hu b hb => by
 rcases Qi.1 hu with rfl | hu
 ·exact h.own.lt b hb
 ·obtain ⟨i, hi⟩ := List.getElem?_of_mem hu
  have hl : i < L.length := by rw [<- h.len]; exact (Qb.1 hi).1
  exact (h.row i u _ hi (Qh hl)).lt b hb
theorem RowsB.kept {B : Nat} {w w' : World} {v : Value} {sls : List Value} {L : List (List (Vc × Value))} (h : RowsB B w v sls L) (hb : Below w.heap.size w w') : RowsB B w' v sls L := by
 have hag : ∀ X : Nat -> Prop, Agree X w w' := fun X => ⟨hb.os, hb.tape, hb.output, hb.size, fun i hi _ => hb.block i hi⟩
 exact ⟨zAl h.own (hag fun _ => False) (fun _ _ h => h), h.len, h.apart, fun i s l hs hl => zAl (h.row i s l hs hl) (hag fun _ => False) (fun _ _ h => h), h.val.to (hag _) (fun _ _ h => h) (fun _ _ h => h), h.lt⟩
theorem RowsB.push {B R n cap i : Nat} {w w1 w2 : World} {s s' : Value} {sls : List Value} {L : List (List (Vc × Value))} {l : List (Vc × Value)} {t : Vc × Value}
  (h : RowsB B w (.slice (some ⟨R, 0, none⟩) n cap) sls L) (hs : sls[i]? = some s) (hl : L[i]? = some l) (hb : Below w.heap.size w w1) (hg : w1.grownBy w2 s.ownBlock)
  (hown : w2.ownsRow B 31 4 s' (l.length + 1) ((l.map cellsV).flatten ++ cellsV t)) (hnew : ∀ g, s'.ownBlock = some g -> s.ownBlock = some g ∨ w.heap.size <= g)
  (ht : FreeA B (fun b => ∃ u ∈ (Value.slice (some ⟨R, 0, none⟩) n cap) :: sls.set i s', u.ownBlock = some b) (w2.setCell ⟨R, i, none⟩ s') (fun w' => RdB B w' t.2 t.1.b)) (h8 : ∀ x ∈ t.1.b, x < 256) :
  RowsB B (w2.setCell ⟨R, i, none⟩ s') (.slice (some ⟨R, 0, none⟩) n cap) (sls.set i s') (L.set i (l ++ [t])) := by
 obtain ⟨ao', cap', hv⟩ := zBc h.own
 simp only [Value.slice.injEq] at hv
 obtain ⟨_, rfl, _⟩ := hv
 have hi : i < sls.length := (Qb.1 hs).1
 have hRb := h.blocks (.slice (some ⟨R, 0, none⟩) L.length cap) Qc R rfl
 have hsm : s ∈ sls := Qa hs
 have hag1 : Agree (fun b => s.ownBlock = some b) w w2 := ((Agree.refl _ w).thenBelow hb).thenGrown hg fun b _ h => h
 have hag : Agree (fun b => b = R ∨ s.ownBlock = some b) w (w2.setCell ⟨R, i, none⟩ s') := (hag1.mono fun b _ h => .inr h).set ⟨R, i, none⟩ _ (.inl (.inl rfl))
 have hsR : s.ownBlock ≠ some R := fun e => by
  have := h.apart 0 (i + 1) _ s R rfl (by simpa using hs) rfl e
  omega
 have hs'R : s'.ownBlock ≠ some R := fun e => (hnew R e).elim hsR fun h2 => by omega
 refine ⟨?_, by rw [Qd, Qd, h.len], ?_, ?_, ?_, ?_⟩
 ·have h1 : w2.ownsRow B 27 1 (.slice (some ⟨R, 0, none⟩) L.length cap) L.length sls := zAl h.own hag1 fun b hb e => by cases hb; exact hsR e
  rw [Qd]
  exact (h1.stored i s').1
 ·have h1 : Bc.Apart (((Value.slice (some ⟨R, 0, none⟩) L.length cap) :: sls).set (i + 1) s') := h.apart.set fun g hg2 j a hj ha e => by
   rcases hnew g hg2 with h2 | h2
   ·exact hj (h.apart j (i + 1) a s g ha (by simpa using hs) e h2)
   ·have := (h.blocks a (Qa ha) g e).2
    omega
  simpa using h1
 ·intro j u k hu hk
  by_cases hij : i = j
  ·subst hij
   rw [Qe hi] at hu
   rw [Qe (by rw [<- h.len]; exact hi)] at hk
   cases hu
   cases hk
   rw [List.length_append, List.map_append, List.flatten_append]
   have h2 : w2.ownsRow B 31 4 s' (l.length + 1) ((l.map cellsV).flatten ++ ([t].map cellsV).flatten) := by simpa using hown
   exact zAl h2 (zGf (fun b => b = R) w2 ⟨R, i, none⟩ s' rfl) fun b hb e => by subst e; exact hs'R hb
  ·rw [Qj hij] at hu hk
   refine zAl (h.row j u k hu hk) hag fun b hb e => ?_
   rcases e with e | e
   ·subst e
    have := h.apart 0 (j + 1) _ u b rfl (by simpa using hu) rfl hb
    omega
   ·have := h.apart (i + 1) (j + 1) s u b (by simpa using hs) (by simpa using hu) e hb
    omega
 ·intro w' ha l2 hl2 t2 ht2
  have hold := h.val.to (Y := fun b => ∃ u ∈ (Value.slice (some ⟨R, 0, none⟩) L.length cap) :: sls.set i s', u.ownBlock = some b) hag (fun b _ e => by
   rcases e with e | e
   ·exact ⟨_, Qc, by rw [e]; rfl⟩
   ·exact ⟨s, Qf _ hsm, e⟩) (fun b hb2 e => by
   obtain ⟨u, hu, hub⟩ := e
   rcases Qi.1 hu with rfl | hu
   ·exact ⟨_, Qc, hub⟩
   ·rcases Qg hu with hu | rfl
    ·exact ⟨u, Qf _ hu, hub⟩
    ·rcases hnew b hub with h2 | h2
     ·exact ⟨s, Qf _ hsm, h2⟩
     ·omega) w' ha
  rcases Qg hl2 with hl2 | rfl
  ·exact hold l2 hl2 t2 ht2
  ·rcases Qk.1 ht2 with ht2 | ht2
   ·exact hold l (Qa hl) t2 ht2
   ·rw [Ql.1 ht2]
    exact ht w' ha
 ·intro l2 hl2 t2 ht2
  rcases Qg hl2 with hl2 | rfl
  ·exact h.lt l2 hl2 t2 ht2
  ·rcases Qk.1 ht2 with ht2 | ht2
   ·exact h.lt l (Qa hl) t2 ht2
   ·rw [Ql.1 ht2]
    exact h8
theorem RowsB.other {B r : Nat} {w w' : World} {v : Value} {sls : List Value} {L : List (List (Vc × Value))} (h : RowsB B w v sls L) (hg : w.grownBy w' (some r)) (hr : r < B) : RowsB B w' v sls L := by
 have hag : Agree (fun b => b = r) w w' := (zCz hg).mono fun i _ e => by cases e; rfl
 exact ⟨zAl h.own hag (fun b hb e => by have := (h.own.lt b hb).1; omega), h.len, h.apart, fun i s l hs hl => zAl (h.row i s l hs hl) hag (fun b hb e => by have := ((h.row i s l hs hl).lt b hb).1; omega),
  h.val.at_ (fun b h1 h2 _ => hag.block b h2 fun e => by omega) hag.size (fun _ _ h => h), h.lt⟩
def snocN (p : Nat) (L : List (List (Vc × Value))) (lv : List (Vc × Value)) : List (List (Vc × Value)) := L.mapIdx fun i l => if i < p then l ++ (lv[i]?).toList else l
theorem zB9 (p : Nat) (L : List (List (Vc × Value))) (lv : List (Vc × Value)) : (snocN p L lv).length = L.length := by unfold snocN; rw [List.length_mapIdx]
theorem zCt (p : Nat) (L : List (List (Vc × Value))) (lv : List (Vc × Value)) (i : Nat) : (snocN p L lv)[i]? = (L[i]?).map fun l => if i < p then l ++ (lv[i]?).toList else l := by unfold snocN; rw [List.getElem?_mapIdx]
theorem zK9 (L : List (List (Vc × Value))) (lv : List (Vc × Value)) : snocN 0 L lv = L := by
 refine Qm fun i => ?_
 rw [zCt]
 cases L[i]? <;> simp
theorem zLa {p : Nat} {L : List (List (Vc × Value))} {lv : List (Vc × Value)} {l : List (Vc × Value)} {t : Vc × Value} (hl : L[p]? = some l) (ht : lv[p]? = some t) : (snocN p L lv).set p (l ++ [t]) = snocN (p + 1) L lv := by
 refine Qm fun i => ?_
 have hlt := (Qb.1 hl).1
 by_cases hi : p = i
 ·subst hi
  rw [Qe (by rw [zB9]; exact hlt), zCt, hl, Qn, if_pos (Nat.lt_succ_self _), ht]
  rfl
 ·rw [Qj hi, zCt, zCt]
  cases L[i]? with
  | none => rfl
  | some x =>
   simp only [Qn]
   by_cases h1 : i < p
   ·rw [if_pos h1, if_pos (by omega)]
   ·rw [if_neg h1, if_neg (by omega)]
theorem zMo {B K : Nat} {wv wr : World} {X : Nat -> Prop} {t : Vc × Value} (h : RdB K wv t.2 t.1.b) (hB : B <= K) (ha : Above K wv wr) (hs : wv.heap.size <= wr.heap.size) (hx : ∀ b, X b -> b < K ∨ wv.heap.size <= b) : FreeA B X wr (fun w' => RdB B w' t.2 t.1.b) := fun w' hw =>
 h.above (fun b h1 h2 => (hw b (by omega) (by omega) fun e => by rcases hx b e with h | h <;> omega).trans (ha b h1 h2)) hB
end Go.Proofs.YtmpgnjhgegbdkaaGreat
