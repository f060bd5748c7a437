/-
  Rows of one's own that are turned: what of them stays.
-/
import Derived.Test.YtmpgnjhgegbdkaaGreatSgo
import Derived.Test.YtmpgnjhgegbdkaaGreatSgj
namespace Go.Proofs.YtmpgnjhgegbdkaaGreat
set_option linter.unusedVariables false
set_option linter.unusedSimpArgs false
open Go.RowKit

/-- Rows of one's own, each of so many values, whatever they are. -/
structure RowsW (B : Nat) (w : World) (v : Value) (sls : List Value) (n m : Nat) : Prop where
  own : w.ownsRow B 27 1 v n sls
  len : sls.length = n
  apart : Bc.Apart (v :: sls)
  row : ∀ (i : Nat) (s : Value), sls[i]? = some s → ∃ xs, w.ownsRow B 31 4 s m xs
theorem RowsB.rowsW {B m : Nat} {w : World} {v : Value} {sls : List Value} {L : List (List (Vc × Value))} (h : RowsB B w v sls L) (hm : ∀ l ∈ L, l.length = m) : RowsW B w v sls L.length m where
  own := h.own
  len := h.len
  apart := h.apart
  row := fun i s hs => by
    have hl : L[i]? = some (L[i]'(by have := (List.getElem?_eq_some_iff.1 hs).1; have := h.len; omega)) := List.getElem?_eq_getElem _
    have := h.row i s _ hs hl
    rw [hm _ (List.mem_of_getElem? hl)] at this
    exact ⟨_, this⟩
theorem RowsW.store {B n m i g : Nat} {w w' : World} {v s : Value} {sls : List Value} (h : RowsW B w v sls n m) (hs : sls[i]? = some s) (hg : s.ownBlock = some g) (ha : Agree (fun b => b = g) w w') (hr : ∃ xs, w'.ownsRow B 31 4 s m xs) : RowsW B w' v sls n m where
  own := zAj h.own ha fun b hb e => by
    subst e
    have := h.apart 0 (i + 1) v _ b rfl (by simpa using hs) hb hg
    omega
  len := h.len
  apart := h.apart
  row := fun k s2 hs2 => by
    by_cases hik : i = k
    · subst hik
      rw [hs] at hs2
      cases hs2
      exact hr
    · obtain ⟨xs, hx⟩ := h.row k s2 hs2
      refine ⟨xs, zAj hx ha fun b hb e => ?_⟩
      subst e
      have := h.apart (i + 1) (k + 1) s s2 b (by simpa using hs) (by simpa using hs2) hg hb
      omega

theorem sameR_self : ∀ x : List Vc, sameR x x = true
  | [] => rfl
  | a :: r => by rw [sameR, sameR_self r, Bool.and_true]; simp [sameT]

/-- A value of a row of one's own: where it stands. -/
theorem OwnW.at_ {B G m c k : Nat} {w : World} {l : List (Vc × Value)} (h : OwnW B w (.slice (some ⟨G, 0, none⟩) m c) l) (hm : l.length = m) {t : Vc × Value} (ht : l[k]? = some t) :
    w.cell? ⟨G, k * 4, none⟩ = some (.bool t.1.u) ∧ w.cell? ⟨G, k * 4 + 1, none⟩ = some (.int .i64 t.1.k) ∧ w.cell? ⟨G, k * 4 + 2, none⟩ = some (.int .i64 t.1.n) ∧ w.cell? ⟨G, k * 4 + 3, none⟩ = some t.2 := by
  subst hm
  have hk := (List.getElem?_eq_some_iff.1 ht).1
  have hfl : ∀ t ∈ l.map cellsV, t.length = 4 := fun t ht => by obtain ⟨c, _, rfl⟩ := List.mem_map.1 ht; rfl
  have hcell : ∀ j u, j < 4 → (cellsV t)[j]? = some u → w.cell? ⟨G, k * 4 + j, none⟩ = some u := fun j u hj hu => by
    have h1 := zFb (l.map cellsV) 4 hfl k (cellsV t) j u (by rw [List.getElem?_map, ht]; rfl) hu
    exact (h.row.cellAt (k * 4 + j) (by omega)).trans h1
  exact ⟨hcell 0 _ (by decide) rfl, hcell 1 _ (by decide) rfl, hcell 2 _ (by decide) rfl, hcell 3 _ (by decide) rfl⟩
theorem own_kept {B g sz n : Nat} {E : TypeId} {w w' : World} {v : Value} {xs : List Value} (h : w.ownsRow B E sz v n xs) (ha : Agree (fun b => b = g) w w') (hx : v.ownBlock ≠ some g) : w'.ownsRow B E sz v n xs :=
  zAj h ha fun i hi e => hx (by rw [hi, e])
theorem flat_int : ∀ (l : List (Vc × Value)) (k : Nat) (t : Vc × Value) (x : Int), l[k]? = some t → ((l.map cellsV).flatten).set (k * 4 + 2) (.int .i64 x) = ((l.set k (⟨t.1.u, t.1.k, x, t.1.b⟩, t.2)).map cellsV).flatten
  | [], k, t, x, h => by simp at h
  | a :: r, 0, t, x, h => by
    simp only [List.getElem?_cons_zero, Option.some.injEq] at h
    subst h
    obtain ⟨⟨u, k, n, b⟩, s⟩ := a
    rfl
  | a :: r, k + 1, t, x, h => by
    have ih := flat_int r k t x (by simpa using h)
    have h4 : (cellsV a).length = 4 := rfl
    rw [List.set_cons_succ, List.map_cons, List.flatten_cons, List.map_cons, List.flatten_cons, ← ih, List.set_append_right _ _ (by omega), h4, show (k + 1) * 4 + 2 - 4 = k * 4 + 2 by omega]
/-- Its number turned. -/
theorem OwnW.int {B G m c k : Nat} {w : World} {l : List (Vc × Value)} (h : OwnW B w (.slice (some ⟨G, 0, none⟩) m c) l) (hm : l.length = m) {t : Vc × Value} (ht : l[k]? = some t) (x : Int) :
    OwnW B (w.setCell ⟨G, k * 4 + 2, none⟩ (.int .i64 x)) (.slice (some ⟨G, 0, none⟩) m c) (l.set k (⟨t.1.u, t.1.k, x, t.1.b⟩, t.2)) := by
  subst hm
  have hk := (List.getElem?_eq_some_iff.1 ht).1
  have hag : Agree (fun b => b = G) w (w.setCell ⟨G, k * 4 + 2, none⟩ (.int .i64 x)) := zE1 _ w ⟨G, k * 4 + 2, none⟩ _ rfl
  have hap : ∀ t2 ∈ l, t2.2.ownBlock ≠ some G := fun t2 h2 e => by
    obtain ⟨i, hi⟩ := List.getElem?_of_mem h2
    have := h.apart 0 (i + 1) _ t2.2 G rfl (by simp [List.getElem?_map, hi]) rfl e
    omega
  have hsn : (l.set k (⟨t.1.u, t.1.k, x, t.1.b⟩, t.2)).map Prod.snd = l.map Prod.snd := by
    rw [List.map_set]
    refine List.ext_getElem (by simp) fun i h1 h2 => ?_
    rw [List.getElem_set]
    split
    · next e =>
      subst e
      have := (List.getElem?_eq_some_iff.1 ht).2
      rw [List.getElem_map, this]
    · rfl
  refine ⟨?_, fun t2 h2 => ?_, by rw [hsn]; exact h.apart⟩
  · rw [List.length_set]
    have := (h.row.stored (k * 4 + 2) (.int .i64 x)).1
    have e := flat_int l k t x ht
    rw [e] at this
    exact this
  · rcases List.mem_or_eq_of_mem_set h2 with h2 | rfl
    · exact ⟨own_kept (h.els t2 h2).1 hag (hap t2 h2), (h.els t2 h2).2⟩
    · have h3 := List.mem_of_getElem? ht
      exact ⟨own_kept (h.els t h3).1 hag (hap t h3), (h.els t h3).2⟩
/-- A byte of it turned. -/
theorem OwnW.byte {B G m c k g n c2 j z : Nat} {w : World} {l : List (Vc × Value)} (h : OwnW B w (.slice (some ⟨G, 0, none⟩) m c) l) (hm : l.length = m) {t : Vc × Value} (ht : l[k]? = some t) (hv : t.2 = .slice (some ⟨g, 0, none⟩) n c2) (hz : z < 256) :
    OwnW B (w.setCell ⟨g, j, none⟩ (.int .u8 (z : Int))) (.slice (some ⟨G, 0, none⟩) m c) (l.set k (⟨t.1.u, t.1.k, t.1.n, t.1.b.set j z⟩, t.2)) := by
  subst hm
  have hk := (List.getElem?_eq_some_iff.1 ht).1
  have hag : Agree (fun b => b = g) w (w.setCell ⟨g, j, none⟩ (.int .u8 (z : Int))) := zE1 _ w ⟨g, j, none⟩ _ rfl
  have hgo : t.2.ownBlock = some g := by rw [hv]; rfl
  have hat : ((Value.slice (some ⟨G, 0, none⟩) l.length c) :: l.map Prod.snd)[k + 1]? = some t.2 := by simp [List.getElem?_map, ht]
  have hgG : g ≠ G := fun e => by
    have := h.apart 0 (k + 1) _ t.2 G rfl hat rfl (by rw [hgo, e])
    omega
  have hsn : (l.set k (⟨t.1.u, t.1.k, t.1.n, t.1.b.set j z⟩, t.2)).map Prod.snd = l.map Prod.snd := by
    rw [List.map_set]
    refine List.ext_getElem (by simp) fun i h1 h2 => ?_
    rw [List.getElem_set]
    split
    · next e =>
      subst e
      have := (List.getElem?_eq_some_iff.1 ht).2
      rw [List.getElem_map, this]
    · rfl
  have hcs : (l.set k (⟨t.1.u, t.1.k, t.1.n, t.1.b.set j z⟩, t.2)).map cellsV = l.map cellsV := by
    rw [List.map_set]
    refine List.ext_getElem (by simp) fun i h1 h2 => ?_
    rw [List.getElem_set]
    split
    · next e =>
      subst e
      have := (List.getElem?_eq_some_iff.1 ht).2
      rw [List.getElem_map, this]
      rfl
    · rfl
  refine ⟨?_, fun t2 h2 => ?_, by rw [hsn]; exact h.apart⟩
  · rw [List.length_set, hcs]
    exact own_kept h.row hag (fun e => hgG (Option.some.inj e).symm)
  · obtain ⟨i, hi⟩ := List.getElem?_of_mem h2
    by_cases hik : k = i
    · subst hik
      rw [List.getElem?_set_self hk] at hi
      cases hi
      have h3 := h.els t (List.mem_of_getElem? ht)
      refine ⟨?_, fun x hx => ?_⟩
      · have h4 := h3.1
        unfold OwnB at h4 ⊢
        obtain ⟨a, cc, hs⟩ := zBb h4
        rw [hv] at hs
        simp only [Value.slice.injEq] at hs
        obtain ⟨rfl, rfl, rfl⟩ := hs
        rw [hv] at h4
        have h5 := (h4.stored j (.int .u8 (z : Int))).1
        show World.ownsRow _ _ _ _ t.2 (t.1.b.set j z).length ((t.1.b.set j z).map u8v)
        rw [hv, List.length_set, List.map_set]
        exact h5
      · rcases List.mem_or_eq_of_mem_set hx with hx | rfl
        · exact h3.2 x hx
        · exact hz
    · rw [List.getElem?_set_ne hik] at hi
      have h3 := h.els t2 (List.mem_of_getElem? hi)
      refine ⟨own_kept h3.1 hag (fun e => ?_), h3.2⟩
      have := h.apart (k + 1) (i + 1) t.2 t2.2 g hat (by simp [List.getElem?_map, hi]) hgo e
      omega

end Go.Proofs.YtmpgnjhgegbdkaaGreat
