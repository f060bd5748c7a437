import Derived.Test.YtmpgnjhgegbdkaaGreatLsix
set_option linter.unusedVariables false
set_option linter.unusedSimpArgs false
namespace Go.Proofs.YtmpgnjhgegbdkaaGreat
open Go.RowKit
open _root_.List renaming set_cons_succ -> Qa, map_cons -> Qc, flatten_cons -> Qd
open _root_.Bool renaming and_eq_true -> Qb
theorem zJ0 : ∀ (x : List Co) (y : List Vc), x.length = y.length -> (∀ (k : Nat) (a : Co) (b : Vc), x[k]? = some a -> y[k]? = some b -> fitsT a b = true) -> fitsR x y = true
 | [], [], _, _ => rfl
 | [], _ :: _, h, _ => by cases h
 | _ :: _, [], h, _ => by cases h
 | a :: x, b :: y, h, hf => by
  rw [fitsR, hf 0 a b rfl rfl, zJ0 x y (by simpa using h) fun k a b h1 h2 => hf (k + 1) a b (by simpa using h1) (by simpa using h2)]
  rfl
theorem zJ1 : ∀ (x : List Co) (y : List Vc) (k : Nat) (c : Co) (v : Vc), fitsR x y = true -> x[k]? = some c -> fitsR x (y.set k v) = fitsT c v
 | [], _, k, c, v, _, h => by simp at h
 | _ :: _, [], k, c, v, h, _ => by simp [fitsR] at h
 | a :: x, b :: y, 0, c, v, h, hc => by
  simp only [List.getElem?_cons_zero, Option.some.injEq] at hc
  subst hc
  rw [fitsR, Qb] at h
  rw [List.set_cons_zero, fitsR, h.2, Bool.and_true]
 | a :: x, b :: y, k + 1, c, v, h, hc => by
  rw [fitsR, Qb] at h
  rw [Qa, fitsR, h.1, zJ1 x y k c v h.2 (by simpa using hc), Bool.true_and]
theorem zRp (a b : Nat) : decide (((abcs.drop a).take b).length <= 64) = true := by
 rw [decide_eq_true_eq, List.length_take, List.length_drop, show abcs.length = 8 from rfl]
 omega
theorem zOn (c : Co) (n : Int) (h : c.k = 1 ∨ c.k = 2) : fitsT c (valOf c n) = true := by
 obtain ⟨nm, k, u⟩ := c
 simp only at h
 unfold valOf
 split
 ·rename_i h1
  simp only at h1
  unfold fitsT
  rcases h with rfl | rfl <;> simp [h1.1]
 ·split
  ·rename_i h1
   simp only at h1
   subst h1
   simp [fitsT]
  ·rename_i h1
   simp only at h1
   have h2 : k = 2 := h.resolve_left h1
   subst h2
   have := zRp (n / 8 % 4).toNat (n / 32 % 4).toNat
   unfold fitsT
   simp only [this]
   rfl
theorem zMt {cols : List Co} (h : ColsOk cols) (n : Int) : fitsR cols (rowOf cols n) = true := by
 refine zJ0 _ _ (zDa cols n).symm fun k a b h1 h2 => ?_
 rw [zF9, h1] at h2
 simp only [Option.map_some, Option.some.injEq] at h2
 subst h2
 unfold eltOf
 split
 ·rename_i h0
  subst h0
  obtain ⟨e1, e2⟩ := h.hd a h1
  unfold fitsT
  simp [e1]
 ·exact zOn a _ (h.ks a (List.mem_of_getElem? h1))
theorem zJ2 : ∀ (l : List (Vc × Value)) (k : Nat) (t : Vc × Value), k < l.length ->
  (((((l.map cellsV).flatten.set (k * 4) (.bool t.1.u)).set (k * 4 + 1) (.int .i64 t.1.k)).set (k * 4 + 2) (.int .i64 t.1.n)).set (k * 4 + 3) t.2) = ((l.set k t).map cellsV).flatten
 | [], k, t, h => by simp at h
 | a :: r, 0, t, h => by simp [cellsV]
 | a :: r, k + 1, t, h => by
  have ih := zJ2 r k t (by simpa using h)
  rw [Qa, Qc, Qd, Qc, Qd, <- ih]
  rw [show (k + 1) * 4 = k * 4 + 1 + 1 + 1 + 1 by omega]
  simp only [cellsV, List.cons_append, List.nil_append]
  rw [show k * 4 + 1 + 1 + 1 + 1 + 1 = (k * 4 + 1) + 1 + 1 + 1 + 1 by omega, show k * 4 + 1 + 1 + 1 + 1 + 2 = (k * 4 + 2) + 1 + 1 + 1 + 1 by omega, show k * 4 + 1 + 1 + 1 + 1 + 3 = (k * 4 + 3) + 1 + 1 + 1 + 1 by omega]
  simp only [Qa]
theorem OInv.set {w wr : World} {l : List (Vc × Value)} {g n cap k : Nat} {t : Vc × Value} (hn : l.length = n) (h : OInv w l (.slice (some ⟨g, 0, none⟩) n cap) wr) (hk : k < l.length) (ht : OkV wr t) (hf : FarV g t) :
  OInv w (l.set k t) (.slice (some ⟨g, 0, none⟩) n cap) ((((wr.setCell ⟨g, k * 4, none⟩ (.bool t.1.u)).setCell ⟨g, k * 4 + 1, none⟩ (.int .i64 t.1.k)).setCell ⟨g, k * 4 + 2, none⟩ (.int .i64 t.1.n)).setCell ⟨g, k * 4 + 3, none⟩ t.2) := by
 have hg : wr.grownBy ((((wr.setCell ⟨g, k * 4, none⟩ (.bool t.1.u)).setCell ⟨g, k * 4 + 1, none⟩ (.int .i64 t.1.k)).setCell ⟨g, k * 4 + 2, none⟩ (.int .i64 t.1.n)).setCell ⟨g, k * 4 + 3, none⟩ t.2) (some g) :=
  zAc (zAc (zAc (zAi _ ⟨g, k * 4, none⟩ _) (zAi _ ⟨g, k * 4 + 1, none⟩ _)) (zAi _ ⟨g, k * 4 + 2, none⟩ _)) (zAi _ ⟨g, k * 4 + 3, none⟩ _)
 have hall : ∀ u ∈ l.set k t, OkV wr u ∧ FarV g u := fun u hu => by
  rcases List.mem_or_eq_of_mem_set hu with h1 | h1
  ·exact ⟨h.ok u h1, h.far u h1 g rfl⟩
  ·rw [h1]; exact ⟨ht, hf⟩
 refine ⟨?_, fun u hu => ((hall u hu).1).grown hg (fun j hj => by cases hj; exact (hall u hu).2), fun u hu j hj => ?_⟩
 ·have hst := (((((show wr.ownsRow w.heap.size 31 4 (.slice (some ⟨g, 0, none⟩) n cap) n (l.map cellsV).flatten by have := h.own; rw [hn] at this; exact this).stored (k * 4) (.bool t.1.u)).1.stored (k * 4 + 1) (.int .i64 t.1.k)).1.stored (k * 4 + 2) (.int .i64 t.1.n)).1.stored (k * 4 + 3) t.2).1
  rw [zJ2 l k t hk] at hst
  rw [List.length_set, hn]
  exact hst
 ·have : g = j := by simpa [Value.ownBlock] using hj
  subst this
  exact (hall u hu).2
theorem RdP.take {w : World} {ao : Option Addr} {n cap : Nat} {l : List (Vc × Value)} (h : RdP w (.slice ao n cap) l) (k : Nat) (hk : k <= l.length) : RdP w (.slice ao k cap) (l.take k) := by
 obtain ⟨⟨ao', cap', hv, hn, hc⟩, hok⟩ := h
 simp only [Value.slice.injEq] at hv
 obtain ⟨rfl, rfl, rfl⟩ := hv
 rw [List.length_map] at hn
 refine ⟨⟨ao, cap, by simp; omega, ⟨hn.1, by simp; omega⟩, fun j t ht => ?_⟩, fun t ht => hok t (List.mem_of_mem_take ht)⟩
 refine hc j t ?_
 rw [List.getElem?_map] at ht ⊢
 rw [List.getElem?_take] at ht
 split at ht
 ·exact ht
 ·simp at ht
end Go.Proofs.YtmpgnjhgegbdkaaGreat
