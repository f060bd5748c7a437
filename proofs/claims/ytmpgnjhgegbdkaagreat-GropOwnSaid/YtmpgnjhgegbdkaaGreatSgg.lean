import Derived.Test.YtmpgnjhgegbdkaaGreatSgb
import Derived.Test.YtmpgnjhgegbdkaaGreatIcoli
import Derived.Test.YtmpgnjhgegbdkaaGreatIcole
import Derived.Test.YtmpgnjhgegbdkaaGreatIcola
import Derived.Test.YtmpgnjhgegbdkaaGreatGtbase
import Derived.Test.YtmpgnjhgegbdkaaGreatBcole
set_option linter.unusedVariables false
set_option linter.unusedSimpArgs false
namespace Go.Proofs.YtmpgnjhgegbdkaaGreat
open Go.RowKit
open _root_.List renaming getElem?_map -> Qa, getElem?_eq_getElem -> Qb, take_succ_eq_append_getElem -> Qc, getElem_set_self -> Qd, take_set_of_le -> Qe, length_map -> Qf, getElem?_eq_some_iff -> Qg
theorem zGm {K : Nat} {w : World} {ao : Option Addr} {n cap : Nat} {us : List Value} (h : RdSK K w 1 (.slice ao n cap) (us.map fun u => [u])) {i : Nat} {u : Value} (hu : us[i]? = some u) :
  n = us.length ∧ us.length <= cap ∧ ∃ b off, ao = some ⟨b, off, none⟩ ∧ w.cell? ⟨b, off + i, none⟩ = some u := by
 have h1 := h.rd
 have h2 := h1
 obtain ⟨ao', cap', hv, hcap, _⟩ := h2
 simp only [Value.slice.injEq, Qf] at hv hcap
 obtain ⟨b, off, ha, hc⟩ := h1.at (k := i) (t := [u]) (by rw [Qa, hu]; rfl)
 refine ⟨hv.2.1, by rw [hv.2.2]; exact hcap.2, b, off, ha, ?_⟩
 have := hc 0 u rfl
 simpa using this
theorem SegAt.open {K g : Nat} {w : World} {cols : List Co} {rows : List (List Vc)} (h : SegAt K w g cols rows) (hne : 0 < cols.length) :
  ∃ (kb ko kc tb tf tc : Nat) (zv : Value) (us : List Value), w.heap[g]? = some (.cells #[.int .i64 (rows.length : Nat), zv, .slice (some ⟨kb, ko, none⟩) cols.length kc, .slice (some ⟨tb, tf, none⟩) cols.length tc] 43 (0, 0)) ∧ cols.length <= tc ∧
   ∀ (i : Nat) (c : Co), cols[i]? = some c -> w.cell? ⟨kb, ko + i, none⟩ = some (.int .i64 c.k) ∧ ∃ u, us[i]? = some u ∧ w.cell? ⟨tb, tf + i, none⟩ = some u ∧ RdB K w u (scolT c.k (colVs rows i)) := by
 obtain ⟨h1, h2, zs, ps, zv, kv, tv, h3, h4, h6, h7, h8, h9⟩ := h
 have hpl : ps.length = cols.length := by rw [<- Bc.zAt, h8, zJx]
 obtain ⟨ka, kc, rfl⟩ := zC7 h6.rd
 obtain ⟨ta, tc, rfl⟩ := zC7 h7.rd
 simp only [Qf, Bc.zA1, hpl] at h3 h6 h7
 have h6' : RdSK K w 1 (.slice ka cols.length kc) ((cols.map fun c => Value.int .i64 c.k).map fun u => [u]) := by rw [List.map_map]; exact h6
 have hu0 : (cols.map fun c => Value.int .i64 c.k)[0]? = some (.int .i64 (cols[0]'hne).k) := by rw [Qa, Qb hne]; rfl
 have hv0 : (Bc.vs ps)[0]? = some ((Bc.vs ps)[0]'(by rw [Bc.zA1, hpl]; exact hne)) := Qb _
 obtain ⟨_, _, kb, ko, rfl, _⟩ := zGm h6' hu0
 obtain ⟨_, htc, tb, tf, rfl, _⟩ := zGm h7 hv0
 refine ⟨kb, ko, kc, tb, tf, tc, zv, Bc.vs ps, h3, by rw [Bc.zA1, hpl] at htc; exact htc, fun i c hc => ?_⟩
 have hi := (Qg.1 hc).1
 obtain ⟨_, _, b1, o1, he1, hk⟩ := zGm h6' (i := i) (u := .int .i64 c.k) (by rw [Qa, hc]; rfl)
 cases he1
 obtain ⟨p, hp⟩ : ∃ p, ps[i]? = some p := ⟨_, Qb (by omega)⟩
 have hpv : (Bc.vs ps)[i]? = some p.1 := by unfold Bc.vs; rw [Qa, hp]; rfl
 obtain ⟨_, _, b2, o2, he2, ht⟩ := zGm h7 hpv
 cases he2
 have hx : p.2 = scolT c.k (colVs rows i) := by
  have := zLu cols rows i
  rw [<- h8, hc] at this
  unfold Bc.xs at this
  rw [Qa, hp] at this
  simpa using this
 have := h9 p (List.mem_of_getElem? hp)
 rw [hx] at this
 exact ⟨hk, p.1, hpv, ht, this⟩
theorem zNd (k : Int) (vs : List Vc) (h : vs.length <= 1000) : decN (scolT k vs) = some (nulT vs, bodyT k vs) := zSa _ _ (by rw [zBe]; omega)
theorem zSn (K : Nat) (w : World) : RdB K w (.slice none 0 0) [] := ⟨none, 0, rfl, ⟨fun _ => rfl, by simp⟩, fun h => absurd h (by simp)⟩
def vset4 (xs : List Value) (m : Nat) (v0 v1 v2 v3 : Value) : List Value := (((xs.set m v0).set (m + 1) v1).set (m + 2) v2).set (m + 3) v3
theorem zP4 (xs : List Value) (m : Nat) (v0 v1 v2 v3 : Value) : (vset4 xs m v0 v1 v2 v3).length = xs.length := by simp [vset4]
theorem zOj (xs : List Value) (m : Nat) (h : m + 4 <= xs.length) (v0 v1 v2 v3 : Value) : (vset4 xs m v0 v1 v2 v3).take (m + 4) = xs.take m ++ [v0, v1, v2, v3] := by
 unfold vset4
 rw [Qc (i := m + 3) (by simp; omega), Qd, Qe (by omega)]
 rw [Qc (i := m + 2) (by simp; omega), Qd, Qe (by omega)]
 rw [Qc (i := m + 1) (by simp; omega), Qd, Qe (by omega)]
 rw [Qc (i := m) (by simp; omega), Qd, Qe (by omega)]
 simp
theorem zP5 {w : World} {B G n q : Nat} {xs : List Value} (h : w.ownsRow B 31 4 (.slice (some ⟨G, 0, none⟩) n n) n xs) (v0 v1 v2 v3 : Value) :
  ((((w.setCell ⟨G, q * 4, none⟩ v0).setCell ⟨G, q * 4 + 1, none⟩ v1).setCell ⟨G, q * 4 + 2, none⟩ v2).setCell ⟨G, q * 4 + 3, none⟩ v3).ownsRow B 31 4 (.slice (some ⟨G, 0, none⟩) n n) n (vset4 xs (q * 4) v0 v1 v2 v3) :=
 ((((h.stored (q * 4) v0).1.stored (q * 4 + 1) v1).1.stored (q * 4 + 2) v2).1.stored (q * 4 + 3) v3).1
theorem zBk {w wx : World} {B G i j k l : Nat} (h : Below B w wx) (hg : B <= G) (v0 v1 v2 v3 : Value) : Below B w ((((wx.setCell ⟨G, i, none⟩ v0).setCell ⟨G, j, none⟩ v1).setCell ⟨G, k, none⟩ v2).setCell ⟨G, l, none⟩ v3) :=
 (((h.setCell (p := ⟨G, i, none⟩) hg v0).setCell (p := ⟨G, j, none⟩) hg v1).setCell (p := ⟨G, k, none⟩) hg v2).setCell (p := ⟨G, l, none⟩) hg v3
def FreeA (B : Nat) (X : Nat -> Prop) (w : World) (P : World -> Prop) : Prop := ∀ w' : World, (∀ b, B <= b -> b < w.heap.size -> ¬ X b -> w'.heap[b]? = w.heap[b]?) -> P w'
theorem FreeA.now {B : Nat} {X : Nat -> Prop} {w : World} {P : World -> Prop} (h : FreeA B X w P) : P w := h w fun _ _ _ _ => rfl
theorem FreeA.at_ {B : Nat} {X Y : Nat -> Prop} {w w' : World} {P : World -> Prop} (h : FreeA B X w P) (ha : ∀ b, B <= b -> b < w.heap.size -> ¬ X b -> w'.heap[b]? = w.heap[b]?) (hs : w.heap.size <= w'.heap.size) (hy : ∀ i, i < w.heap.size -> Y i -> X i) : FreeA B Y w' P :=
 fun w2 h2 => h w2 fun b h3 h4 h5 => (h2 b h3 (Nat.lt_of_lt_of_le h4 hs) fun e => h5 (hy b h4 e)).trans (ha b h3 h4 h5)
theorem FreeA.to {B : Nat} {X Y Z : Nat -> Prop} {w w' : World} {P : World -> Prop} (h : FreeA B X w P) (ha : Agree Z w w') (hz : ∀ i, i < w.heap.size -> Z i -> X i) (hy : ∀ i, i < w.heap.size -> Y i -> X i) : FreeA B Y w' P :=
 h.at_ (fun b _ h2 h3 => ha.block b h2 fun e => h3 (hz b h2 e)) ha.size hy
structure RowsB (B : Nat) (w : World) (v : Value) (sls : List Value) (L : List (List (Vc × Value))) : Prop where
 own : w.ownsRow B 27 1 v L.length sls
 len : sls.length = L.length
 apart : Bc.Apart (v :: sls)
 row : ∀ (i : Nat) (s : Value) (l : List (Vc × Value)), sls[i]? = some s -> L[i]? = some l -> w.ownsRow B 31 4 s l.length (l.map cellsV).flatten
 val : FreeA B (fun b => ∃ u ∈ v :: sls, u.ownBlock = some b) w fun w' => ∀ l ∈ L, ∀ t ∈ l, RdB B w' t.2 t.1.b
 lt : ∀ l ∈ L, ∀ t ∈ l, ∀ x ∈ t.1.b, x < 256
def RdRsA (B : Nat) (w : World) (v : Value) (L : List (List (Vc × Value))) : Prop := ∀ w', Above B w w' -> RdRs w' v L
theorem RdRsA.above {B B' : Nat} {w w' : World} {v : Value} {L : List (List (Vc × Value))} (h : RdRsA B w v L) (hs : w.heap.size <= w'.heap.size) (ha : Above B w w') (hk : B' <= B) : RdRsA B' w' v L :=
 fun w'' h2 => h w'' (ha.trans hs (h2.mono hk))
theorem RdRsA.rd {B : Nat} {w : World} {v : Value} {L : List (List (Vc × Value))} (h : RdRsA B w v L) : RdRs w v L := h w (Above.refl _ _)
theorem RowsB.blocks {B : Nat} {w : World} {v : Value} {sls : List Value} {L : List (List (Vc × Value))} (h : RowsB B w v sls L) : ∀ u ∈ v :: sls, ∀ b, u.ownBlock = some b -> B <= b ∧ b < w.heap.size := fun u hu b hb => by
 rcases List.mem_cons.1 hu with rfl | hu
 ·exact h.own.lt b hb
 ·obtain ⟨i, hi⟩ := List.getElem?_of_mem hu
  have hl : i < L.length := by rw [<- h.len]; exact (Qg.1 hi).1
  exact (h.row i u _ hi (Qb hl)).lt b hb
theorem RowsB.kept {B : Nat} {w w' : World} {v : Value} {sls : List Value} {L : List (List (Vc × Value))} (h : RowsB B w v sls L) (hb : Below w.heap.size w w') : RowsB B w' v sls L := by
 have hag : ∀ X : Nat -> Prop, Agree X w w' := fun X => ⟨hb.os, hb.tape, hb.output, hb.size, fun i hi _ => hb.block i hi⟩
 exact ⟨zAe h.own (hag fun _ => False) (fun _ _ h => h), h.len, h.apart, fun i s l hs hl => zAe (h.row i s l hs hl) (hag fun _ => False) (fun _ _ h => h), h.val.to (hag _) (fun _ _ h => h) (fun _ _ h => h), h.lt⟩
theorem RowsB.other {B r : Nat} {w w' : World} {v : Value} {sls : List Value} {L : List (List (Vc × Value))} (h : RowsB B w v sls L) (hg : w.grownBy w' (some r)) (hr : r < B) : RowsB B w' v sls L := by
 have hag : Agree (fun b => b = r) w w' := (zC1 hg).mono fun i _ e => by cases e; rfl
 exact ⟨zAe h.own hag (fun b hb e => by have := (h.own.lt b hb).1; omega), h.len, h.apart, fun i s l hs hl => zAe (h.row i s l hs hl) hag (fun b hb e => by have := ((h.row i s l hs hl).lt b hb).1; omega),
  h.val.at_ (fun b h1 h2 _ => hag.block b h2 fun e => by omega) hag.size (fun _ _ h => h), h.lt⟩
theorem RowsB.far {B G n cap p : Nat} {w : World} {s : Value} {sls : List Value} {L : List (List (Vc × Value))} (h : RowsB B w (.slice (some ⟨G, 0, none⟩) n cap) sls L) (hs : sls[p]? = some s) : s.ownBlock ≠ some G := fun e => by
 have := h.apart 0 (p + 1) _ s G rfl (by simpa using hs) rfl e
 omega
end Go.Proofs.YtmpgnjhgegbdkaaGreat
